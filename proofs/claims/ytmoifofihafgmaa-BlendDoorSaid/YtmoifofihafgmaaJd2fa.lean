/- Joined texts: Base, Facts, Round, Small, Iter, Place, At, Lack, Lack2, Math, Pub, Ref, Ref2, Works, Sort, Ways1, Exch. -/
import Derived.Test.YtmoifofihafgmaaChecked
import Derived.Test.YtmoifofihafgmaaAxQ
import Derived.Test.YtmoifofihafgmaaAxR
/- What is run, and what is kept between its statements. -/
namespace Go.Proofs.Ytmoifofihafgmaa
open Go Go.Proofs.Ytmoifofihafgmaa.AX Go.RowKit
set_option maxRecDepth 100000

def keepT (f : Nat) : List Nat :=
  bif Nat.ble f 59 then bif Nat.ble f 29 then bif Nat.ble f 14 then bif Nat.ble f 7 then bif Nat.ble f 3 then bif Nat.ble f 1 then bif Nat.ble f 0 then [] else [] else bif Nat.ble f 2 then [] else [0, 1, 2, 3, 8, 9, 10, 11, 12, 13, 14, 15, 16, 17, 18, 19, 20, 21, 22, 23, 24, 25, 26, 29, 97] else bif Nat.ble f 5 then bif Nat.ble f 4 then [0, 1, 2, 6, 7, 8, 9, 10, 11, 12, 13, 14, 18] else [0, 1, 2, 3, 6, 7, 8, 9, 10, 11, 12, 13, 14, 15, 20] else bif Nat.ble f 6 then [0, 1, 2, 3, 6, 7, 8, 9, 10, 11, 12, 13, 14, 15, 16, 17, 22] else [0, 1, 4, 5, 6, 7, 8, 9, 10, 11, 12, 13, 14, 15, 16, 17, 19, 20, 21, 22, 23, 24, 25, 26, 27, 28, 29, 30, 31, 32, 33, 34, 35, 37, 63, 65, 66, 67, 99, 100, 101, 102, 103, 113, 121, 122, 123, 124, 144, 159, 195, 203, 218, 219, 220, 221, 222, 234, 238, 264] else bif Nat.ble f 11 then bif Nat.ble f 9 then bif Nat.ble f 8 then [0, 1, 2, 3, 6, 7, 8, 9, 10, 11, 12, 13, 14, 15, 16, 17, 18, 19, 20, 21, 22, 23, 91, 92, 93, 94, 95, 112, 114, 115, 116, 117, 135, 146, 165, 189] else [0, 1, 2, 3, 4, 7, 8, 9, 10, 11, 12, 13, 14, 15, 16, 17, 18, 19, 20, 21, 22, 23, 24, 25, 26] else bif Nat.ble f 10 then [0, 1, 2, 3, 4, 6, 8, 9, 10, 11, 12, 13, 14, 15, 16, 17, 18, 19, 20, 21, 22, 23, 24, 25, 26, 27, 106, 108] else [0, 1, 2, 3, 4, 5, 7, 10, 11, 12, 13, 14, 15, 16, 17, 18, 19, 20, 21, 22, 23, 24, 25, 26, 27, 28, 29, 156] else bif Nat.ble f 13 then bif Nat.ble f 12 then [0, 1, 2, 3, 4, 5, 6, 8, 9, 10, 12, 13, 14, 15, 16, 17, 18, 19, 20, 21, 22, 23, 24, 25, 26, 27, 28, 29, 30, 31, 32, 33, 34, 35, 36, 37, 38, 39, 40, 41, 42, 43, 54, 55, 56, 63, 64, 65, 95, 96, 97, 98, 150, 198, 240] else [0, 1, 2, 4, 5, 6, 8, 9, 10, 11, 12, 14, 15, 16, 18, 19, 20, 22, 23, 24, 25, 26, 27, 28, 29, 30, 158, 189, 190, 191, 192, 208] else [0, 2, 3, 7, 15] else bif Nat.ble f 22 then bif Nat.ble f 18 then bif Nat.ble f 16 then bif Nat.ble f 15 then [0, 1, 2, 3, 4, 5, 6, 7, 8, 9, 10, 11, 12, 13, 14, 15, 16, 17, 18, 19, 79] else [0, 1, 4, 5, 6, 11] else bif Nat.ble f 17 then [0, 1, 4, 5, 6, 11] else [0, 1, 4, 5, 6, 11] else bif Nat.ble f 20 then bif Nat.ble f 19 then [0, 1, 4, 5, 6, 7, 8, 13, 25] else [0, 1, 2, 6, 7, 8, 13, 23] else bif Nat.ble f 21 then [0, 1, 2, 6, 7, 8, 9, 24, 26] else [0, 1, 4, 5, 10, 14, 25] else bif Nat.ble f 26 then bif Nat.ble f 24 then bif Nat.ble f 23 then [0, 1, 4, 5, 6, 7, 8, 9, 14, 24] else [0, 1, 4, 5, 6, 7, 8, 9, 10, 11, 19, 27] else bif Nat.ble f 25 then [0, 1, 4, 5, 6, 8, 12, 14, 15, 16, 17, 26, 29] else [0, 1, 4, 5, 8, 12, 22, 36] else bif Nat.ble f 28 then bif Nat.ble f 27 then [0, 1, 2, 6, 7, 8, 14] else [0, 1, 2, 6, 7, 8, 14] else [0, 1, 2, 6, 7, 8, 9, 10, 11, 12, 18, 28, 29, 30, 31] else bif Nat.ble f 44 then bif Nat.ble f 37 then bif Nat.ble f 33 then bif Nat.ble f 31 then bif Nat.ble f 30 then [0, 1, 2, 6, 7, 8, 9, 15, 24] else [0, 1, 4, 5, 10, 14, 26] else bif Nat.ble f 32 then [0, 1, 2, 4, 5, 6, 11] else [0, 1, 2, 4, 5, 6, 11] else bif Nat.ble f 35 then bif Nat.ble f 34 then [0, 1, 2, 4, 5, 6, 7, 11, 19] else [0, 1, 2, 4, 5, 6, 7, 8, 9, 21, 23, 33, 46] else bif Nat.ble f 36 then [0, 1, 2, 4, 8, 12, 14, 15, 16, 17, 25, 31] else [0, 1, 2, 3, 7, 11, 16, 25, 30] else bif Nat.ble f 41 then bif Nat.ble f 39 then bif Nat.ble f 38 then [0, 1, 2, 3, 4, 5, 6, 7, 12, 20] else [0, 1, 2, 4, 5, 6, 7, 8, 9, 10, 11, 16, 27, 41, 74, 80] else bif Nat.ble f 40 then [0, 1, 2, 3, 4, 5, 6, 7, 8, 9, 10, 15, 22, 34, 35, 40] else [0, 1, 2, 3, 6, 7, 8, 9, 10, 11, 12, 13, 23, 25, 42, 53] else bif Nat.ble f 43 then bif Nat.ble f 42 then [0, 1, 2, 6, 8, 9, 10, 15] else [1] else [0, 1, 2, 6, 7, 8, 9, 10, 11, 12, 35] else bif Nat.ble f 52 then bif Nat.ble f 48 then bif Nat.ble f 46 then bif Nat.ble f 45 then [0, 1, 4, 5, 7, 8, 9, 10, 11, 17] else [0, 1, 4] else bif Nat.ble f 47 then [0, 1, 2, 3, 6, 7, 8, 9, 10, 11, 12, 13, 14, 21, 22, 23] else [0, 2, 5] else bif Nat.ble f 50 then bif Nat.ble f 49 then [0, 1, 3, 4, 5, 6, 7, 8, 13] else [0, 1, 2, 4, 5, 7, 15, 16, 17, 18] else bif Nat.ble f 51 then [0, 1, 2, 3, 4, 5, 6, 7, 8, 10, 11, 20, 36, 52] else [0, 1, 2, 4, 5, 7, 8, 9, 10, 11] else bif Nat.ble f 56 then bif Nat.ble f 54 then bif Nat.ble f 53 then [0, 1, 4, 5, 6, 7, 8, 9, 10, 11, 12, 19, 28, 35] else [0, 1, 2, 6, 7, 16] else bif Nat.ble f 55 then [0, 1, 3, 4, 6, 7, 8, 9, 10] else [0, 2] else bif Nat.ble f 58 then bif Nat.ble f 57 then [0, 2] else [0] else [0, 1, 4, 5, 9, 17] else bif Nat.ble f 89 then bif Nat.ble f 74 then bif Nat.ble f 67 then bif Nat.ble f 63 then bif Nat.ble f 61 then bif Nat.ble f 60 then [0, 1, 4, 5, 8] else [0, 1, 4, 13] else bif Nat.ble f 62 then [0, 1, 4, 5, 6, 7, 9, 14, 31] else [0, 1, 3, 4, 5, 6, 10, 11, 14] else bif Nat.ble f 65 then bif Nat.ble f 64 then [0, 1, 4, 5, 10, 14, 25] else [0, 1, 2, 5, 6, 7, 10, 11, 13] else bif Nat.ble f 66 then [0, 1, 2, 6] else [0, 1, 3, 4] else bif Nat.ble f 71 then bif Nat.ble f 69 then bif Nat.ble f 68 then [0, 1, 4, 5, 6, 10, 19] else [0, 2, 8] else bif Nat.ble f 70 then [0, 1, 2, 6, 7, 8, 13, 19, 25] else [0, 1, 4] else bif Nat.ble f 73 then bif Nat.ble f 72 then [0, 1, 2, 6, 7, 12, 24] else [0, 2, 3] else [0, 1, 2, 6, 7] else bif Nat.ble f 82 then bif Nat.ble f 78 then bif Nat.ble f 76 then bif Nat.ble f 75 then [0, 1, 2, 3, 8, 9, 10, 13, 28] else [0, 1, 2, 4, 5, 9] else bif Nat.ble f 77 then [0, 1, 2, 4, 5, 7, 8, 9, 10, 11] else [0, 1, 2, 4, 5, 9] else bif Nat.ble f 80 then bif Nat.ble f 79 then [0, 1, 2, 4, 5, 6, 10] else [0, 1, 2, 4, 5, 6, 11, 12, 15] else bif Nat.ble f 81 then [0, 1, 4, 5, 6, 9, 17, 27] else [0, 1, 2, 5] else bif Nat.ble f 86 then bif Nat.ble f 84 then bif Nat.ble f 83 then [0, 2, 3, 5, 6, 7, 8, 9, 14] else [0, 1, 4, 5, 6, 11, 12, 13, 16, 19] else bif Nat.ble f 85 then [0, 1, 4, 5, 9, 20] else [0, 1, 2, 3, 4] else bif Nat.ble f 88 then bif Nat.ble f 87 then [0, 2] else [0, 1, 4, 5, 6, 7, 8, 9, 15] else [0, 1, 4, 5, 7, 8, 9, 16] else bif Nat.ble f 104 then bif Nat.ble f 97 then bif Nat.ble f 93 then bif Nat.ble f 91 then bif Nat.ble f 90 then [0, 1, 2, 3, 8, 9, 10, 11, 12, 13, 14, 15, 16, 17, 18, 23, 29, 35, 50, 68, 72, 87, 113] else [0, 2] else bif Nat.ble f 92 then [0, 2, 3, 4, 7] else [0, 1, 4, 5, 10, 12, 13, 14, 24] else bif Nat.ble f 95 then bif Nat.ble f 94 then [0, 1, 4, 5, 6, 7, 12, 19, 29] else [0, 1, 3] else bif Nat.ble f 96 then [0, 1, 4, 5, 9, 17] else [0, 1, 2, 4, 5] else bif Nat.ble f 101 then bif Nat.ble f 99 then bif Nat.ble f 98 then [0, 2] else [0, 1, 2] else bif Nat.ble f 100 then [0, 1, 2, 3, 4, 8, 20, 28, 37] else [0, 1, 2, 6, 7, 12, 30] else bif Nat.ble f 103 then bif Nat.ble f 102 then [0, 1, 2, 6, 7, 8, 9, 10, 19, 30] else [0, 1, 2, 6, 7, 8, 9, 10, 15, 33, 43] else [0, 1, 2, 6, 7, 8, 9, 10, 11, 12, 32, 34, 49, 51, 54] else bif Nat.ble f 112 then bif Nat.ble f 108 then bif Nat.ble f 106 then bif Nat.ble f 105 then [0, 1, 2, 6, 7, 13] else [0, 1, 2, 6, 7, 8, 9, 10, 14, 32, 37, 41, 61, 65, 78, 98, 103, 116] else bif Nat.ble f 107 then [0, 1, 4] else [0, 1, 2, 3, 8, 9, 10, 43, 59, 64] else bif Nat.ble f 110 then bif Nat.ble f 109 then [0, 1, 2, 3, 8, 9, 10, 11, 43, 60, 65, 112, 129, 134] else [0, 2, 4, 8] else bif Nat.ble f 111 then [0, 2, 4, 8, 14] else [0, 1, 4, 5, 7, 8, 9, 16] else bif Nat.ble f 116 then bif Nat.ble f 114 then bif Nat.ble f 113 then [0, 1, 2, 3, 4, 8] else [0, 1, 2, 3, 8, 9, 16, 36, 52] else bif Nat.ble f 115 then [0, 2] else [0, 2] else bif Nat.ble f 118 then bif Nat.ble f 117 then [0, 1, 2, 6] else [0, 1, 2, 3, 4, 10] else [0, 1, 2, 3, 8, 9, 18]

def goodT (f : Nat) : Bool := Nat.ble 3 f && Nat.ble f 119 && !(Nat.beq f 12)

noncomputable def cx : Cx Try.prog where
  good := goodT
  keep := keepT
  ext _ _ _ := none

theorem okAll : (List.range 120).all (fun f => !(Nat.ble 3 f) || okFn Try.prog f) = true := by kernel_rfl
theorem okFn_low {f : Nat} (h3 : 3 ≤ f) (h : f ≤ 119) : okFn Try.prog f = true := by
  have := (List.all_eq_true.1 okAll) f (List.mem_range.2 (by omega))
  have h1 : Nat.ble 3 f = true := Nat.ble_eq_true_of_le h3
  simpa [h1] using this

theorem goodAll : (List.range 120).all (fun f => !goodT f || fnOrd Try.prog f) = true := by kernel_rfl

theorem cx_ok : cx.Ok where
  mixed := by kernel_rfl
  ord f h := by
    have hlt : f < 120 := by
      have h1 : Nat.ble f 119 = true := by
        simp only [cx, goodT, Bool.and_eq_true] at h
        exact h.1.2
      exact Nat.lt_succ_of_le (Nat.le_of_ble_eq_true h1)
    have := (List.all_eq_true.1 goodAll) f (List.mem_range.2 hlt)
    have hg : goodT f = true := h
    rw [hg] at this
    simpa using this
  ext f args H v H' h := by cases h
theorem mixed : Try.prog.follows .mixedOrders = true := by kernel_rfl
end Go.Proofs.Ytmoifofihafgmaa

/- What the steps ask of the types of this program. -/
namespace Go.Proofs.Ytmoifofihafgmaa
open Go Go.Proofs.Ytmoifofihafgmaa.AX
@[simp] theorem len22 (r : Option Nat) (off len ver sz : Nat) (full : Bool) : aLen Try.prog 22 (.slice r off len ver sz full) = some (.int .i64 len) := len_sl (n := 1) (by kernel_rfl) ..
@[simp] theorem ixa22 (r off len ver : Nat) (full : Bool) (k : IntKind) (i : Int) : aIndexAddr Try.prog 22 (.slice (some r) off len ver 1 full) (.int k i) = if 0 ≤ i ∧ i < len then some (.ptr r (off + i.toNat * 1) ver) else none := ixa_sl (by kernel_rfl) ..
@[simp] theorem len37 (r : Option Nat) (off len ver sz : Nat) (full : Bool) : aLen Try.prog 37 (.slice r off len ver sz full) = some (.int .i64 len) := len_sl (n := 1) (by kernel_rfl) ..
@[simp] theorem ixa37 (r off len ver : Nat) (full : Bool) (k : IntKind) (i : Int) : aIndexAddr Try.prog 37 (.slice (some r) off len ver 1 full) (.int k i) = if 0 ≤ i ∧ i < len then some (.ptr r (off + i.toNat * 1) ver) else none := ixa_sl (by kernel_rfl) ..
@[simp] theorem ld3 (H : AH) (r off ver : Nat) : loadV Try.prog 3 H (.ptr r off ver) = ld H r off ver := ld_sc (by kernel_rfl) ..
@[simp] theorem ld4 (H : AH) (r off ver : Nat) : loadV Try.prog 4 H (.ptr r off ver) = ld H r off ver := ld_sc (by kernel_rfl) ..
@[simp] theorem ld5 (H : AH) (r off ver : Nat) : loadV Try.prog 5 H (.ptr r off ver) = ld H r off ver := ld_sc (by kernel_rfl) ..
@[simp] theorem ld22 (H : AH) (r off ver : Nat) : loadV Try.prog 22 H (.ptr r off ver) = ld H r off ver := ld_sc (by kernel_rfl) ..
@[simp] theorem ld110 (H : AH) (r off ver : Nat) : loadV Try.prog 110 H (.ptr r off ver) = ld H r off ver := ld_sc (by kernel_rfl) ..
theorem sc3 : scal Try.prog 3 = true := by kernel_rfl
theorem sc4 : scal Try.prog 4 = true := by kernel_rfl
theorem sc22 : scal Try.prog 22 = true := by kernel_rfl
theorem el22 : elT Try.prog 22 = true := by kernel_rfl
theorem el37 : elT Try.prog 37 = true := by kernel_rfl
theorem elz22 : elZ Try.prog 22 = some (.int .i64 0) := by kernel_rfl
theorem slz22 : slSz Try.prog 22 = some 1 := by kernel_rfl
theorem zt3 : zeroT Try.prog 3 = some [.int .i64 0] := by kernel_rfl
theorem zt22 : zeroT Try.prog 22 = some [.slice none 0 0 0 1 false] := by kernel_rfl
@[simp] theorem row22 (H : AH) (b : Int) : rowV Try.prog 22 1 [(0, .int .i64 b)] H = some (some (.slice (some H.length) 0 1 0 1 false), H ++ [.row [.int .i64 b] 0 1 false]) := row1 el22 rfl rfl
theorem ag112 : aggSz Try.prog 112 = some 2 := by kernel_rfl
@[simp] theorem ld112 (H : AH) (r off ver : Nat) : loadV Try.prog 112 H (.ptr r off ver) = (ldn H r ver 2 off).map .agg := load_agg ag112 ..
@[simp] theorem fa1120 (r off ver : Nat) : aFieldAddr Try.prog 112 (.ptr r off ver) 0 = some (.ptr r (off + 0) ver) := fld_ptr (by kernel_rfl) ..
@[simp] theorem fa1121 (r off ver : Nat) : aFieldAddr Try.prog 112 (.ptr r off ver) 1 = some (.ptr r (off + 1) ver) := fld_ptr (by kernel_rfl) ..
@[simp] theorem built112 (w K r : Nat) : aBuilt Try.prog 112 [(0, .slice (some w) 0 K 0 1 false), (1, .yld r)] = some [.slice (some w) 0 K 0 1 false, .yld r] := by kernel_rfl
theorem get_set {H : AH} {r : Nat} {o o' : AObj} (h : H[r]? = some o) : (H.set r o')[r]? = some o' := by
  have := (List.getElem?_eq_some_iff.1 h).1
  simp [this]
theorem Ls.flat {H : AH} {v : AV} {l : List Int} (h : Ls H v l) (hne : 0 < l.length) : ∃ r off ver full, v = .slice (some r) off l.length ver 1 full ∧ ∀ i (hi : i < l.length), ld H r (off + i) ver = some (.int .i64 l[i]) := by
  obtain ⟨r, off, ver, sz, full, rfl, hl⟩ := h
  obtain ⟨r', rfl, rfl, -⟩ := hl 0 hne
  refine ⟨r', off, ver, full, rfl, fun i hi => ?_⟩
  obtain ⟨r2, h1, -, h3⟩ := hl i hi
  obtain rfl := Option.some.inj h1
  exact h3

/-! ### What is checked -/
def leavesE (n : Int) : Int := if n < 1 ∨ 10 < n then 1 else 0
theorem checkLeaves_ac (n : Int) (H : AH) (Q : AV → AH → Prop) (h : Q (.int .i64 (leavesE n)) H) : AC Try.prog 69 [.int .i64 n] H Q := by
  refine L_body 9 Try.func69 rfl rfl ?_
  refine L_reg [0] (fun K hK => ?_)
  simp
  apply hK; clear hK K
  by_cases h1 : n < 1
  · refine L_reg [8] (fun K hK => ?_)
    simp [pickV, h1]
    apply hK; clear hK K
    refine L_true (by simp) ?_
    refine L_reg [2] (fun K hK => ?_)
    simp
    apply hK; clear hK K
    exact L_ret ⟨.inr rfl, _, rfl, by simpa [leavesE, h1] using h⟩
  · refine L_reg [8] (fun K hK => ?_)
    simp [pickV, h1]
    apply hK; clear hK K
    refine L_dec (10 < n) (by simp) (fun h2 => ?_) (fun h2 => ?_)
    · refine L_reg [2] (fun K hK => ?_)
      simp
      apply hK; clear hK K
      exact L_ret ⟨.inr rfl, _, rfl, by simpa [leavesE, h2] using h⟩
    · refine L_reg [2] (fun K hK => ?_)
      simp
      apply hK; clear hK K
      exact L_ret ⟨.inr rfl, _, rfl, by simpa [leavesE, h1, h2] using h⟩
def sizeE (n k : Int) : Int := if leavesE n = 0 then (if k < 0 ∨ n < k then 1 else 0) else leavesE n
theorem checkSize_ac (n k : Int) (H : AH) (Q : AV → AH → Prop) (h : Q (.int .i64 (sizeE n k)) H) : AC Try.prog 59 [.int .i64 n, .int .i64 k] H Q := by
  refine L_body 18 Try.func59 rfl rfl ?_
  refine L_reg [0, 1] (fun K hK => ?_)
  simp
  apply hK; clear hK K
  refine L_reg [0, 1, 5] (fun K hK => ?_)
  simp [okFn_low]
  refine checkLeaves_ac n _ _ ?_
  simp
  apply hK; clear hK K
  refine L_reg [0, 1, 5, 9] (fun K hK => ?_)
  simp
  apply hK; clear hK K
  unfold sizeE at h
  refine L_split rfl (fun ht => ?_) (fun hf => ?_)
  · have hne : leavesE n ≠ 0 := by simpa using ht
    rw [if_neg hne] at h
    refine L_reg [4] (fun K hK => ?_)
    simp
    apply hK; clear hK K
    exact L_ret ⟨.inr rfl, _, rfl, h⟩
  · have he : leavesE n = 0 := by simpa using hf
    rw [if_pos he] at h
    by_cases h1 : k < 0
    · rw [if_pos (.inl h1)] at h
      refine L_reg [17] (fun K hK => ?_)
      simp [pickV, h1]
      apply hK; clear hK K
      refine L_true (by simp) ?_
      refine L_reg [4] (fun K hK => ?_)
      simp
      apply hK; clear hK K
      exact L_ret ⟨.inr rfl, _, rfl, h⟩
    · refine L_reg [17] (fun K hK => ?_)
      simp [pickV, h1]
      apply hK; clear hK K
      refine L_dec (n < k) (by simp) (fun h2 => ?_) (fun h2 => ?_)
      · rw [if_pos (.inr h2)] at h
        refine L_reg [4] (fun K hK => ?_)
        simp
        apply hK; clear hK K
        exact L_ret ⟨.inr rfl, _, rfl, h⟩
      · rw [if_neg (by omega)] at h
        refine L_reg [4] (fun K hK => ?_)
        simp
        apply hK; clear hK K
        exact L_ret ⟨.inr rfl, _, rfl, h⟩
/-- The first error of leaves behind one. -/
def chk (n : Int) : Int → List Int → Int
  | _, [] => 0
  | b, x :: l => if x < 0 ∨ n ≤ x then 2 else if x ≤ b then 7 else chk n x l
def checkE (n : Int) (l : List Int) : Int := if leavesE n = 0 then chk n (-1) l else leavesE n
theorem chk_drop {n b : Int} {l : List Int} {i : Nat} (hi : i < l.length) : chk n b (l.drop i) = if l[i] < 0 ∨ n ≤ l[i] then 2 else if l[i] ≤ b then 7 else chk n l[i] (l.drop (i + 1)) := by
  rw [List.drop_eq_getElem_cons hi]; rfl
theorem Check_ac (n : Int) (v : AV) (l : List Int) (H : AH) (Q : AV → AH → Prop) (hl : l.length ≤ 1000000) (hv : Ls H v l) (h : Q (.int .i64 (checkE n l)) H) : AC Try.prog 25 [.int .i64 n, v] H Q := by
  obtain ⟨r, off, ver, sz, full, rfl, hld⟩ := hv
  refine L_body 32 Try.func25 rfl rfl ?_
  refine L_reg [0, 1] (fun K hK => ?_)
  simp
  apply hK; clear hK K
  refine L_reg [0, 1, 5] (fun K hK => ?_)
  simp [okFn_low]
  refine checkLeaves_ac n _ _ ?_
  simp
  apply hK; clear hK K
  refine L_reg [0, 1, 5, 12] (fun K hK => ?_)
  simp
  apply hK; clear hK K
  unfold checkE at h
  refine L_split rfl (fun ht => ?_) (fun hf => ?_)
  · have hne : leavesE n ≠ 0 := by simpa using ht
    rw [if_neg hne] at h
    refine L_reg [4] (fun K hK => ?_)
    simp
    apply hK; clear hK K
    exact L_ret ⟨.inr rfl, _, rfl, h⟩
  · have he : leavesE n = 0 := by simpa using hf
    rw [if_pos he] at h
    refine L_reg [0, 1, 6] (fun K hK => ?_)
    simp
    apply hK; clear hK K
    refine L_reg [0, 6, 14, 15, 16] (fun K hK => ?_)
    simp
    apply hK; clear hK K
    refine L_block (L_loopV [6, 16] (fun k vs H' => ∃ (i : Nat) (b : Int), k = l.length - i ∧ i ≤ l.length ∧ chk n (-1) l = chk n b (l.drop i) ∧ vs = [.int .i64 b, .int .i64 i] ∧ H = H') _ [.int .i64 (-1), .int .i64 (0 : Nat)] rfl ⟨0, -1, rfl, by omega, rfl, rfl, rfl⟩ ?_)
    rintro k _ _ ⟨i, b, rfl, hi, hce, rfl, rfl⟩
    refine L_reg [0, 6, 14, 15, 16, 17] (fun K hK => ?_)
    simp
    apply hK; clear hK K
    refine L_dec (i < l.length) (by simp) (fun hlt => ?_) (fun hge => L_exit ?_)
    · obtain ⟨r', rfl, rfl, hrd⟩ := hld i hlt
      rw [chk_drop hlt] at hce
      generalize l[i] = x at hrd hce
      refine L_block ?_
      refine L_reg [0, 6, 8, 14, 15, 16] (fun K hK => ?_)
      simp [hlt, hrd]
      apply hK; clear hK K
      by_cases h0 : x < 0
      · rw [if_pos (.inl h0)] at hce
        refine L_reg [0, 6, 8, 14, 15, 16, 26] (fun K hK => ?_)
        simp [pickV, h0]
        apply hK; clear hK K
        refine L_true (by simp) ?_
        refine L_reg [4] (fun K hK => ?_)
        simp
        apply hK; clear hK K
        exact L_ret ⟨.inr rfl, _, rfl, by rw [hce] at h; exact h⟩
      · refine L_reg [0, 6, 8, 14, 15, 16, 26] (fun K hK => ?_)
        simp [pickV, h0]
        apply hK; clear hK K
        refine L_dec (n ≤ x) (by simp) (fun h1 => ?_) (fun h1 => ?_)
        · rw [if_pos (.inr h1)] at hce
          refine L_reg [4] (fun K hK => ?_)
          simp
          apply hK; clear hK K
          exact L_ret ⟨.inr rfl, _, rfl, by rw [hce] at h; exact h⟩
        · rw [if_neg (by omega)] at hce
          refine L_reg [0, 8, 14, 15, 16, 29] (fun K hK => ?_)
          simp
          apply hK; clear hK K
          refine L_dec (x ≤ b) (by simp) (fun h2 => ?_) (fun h2 => ?_)
          · rw [if_pos h2] at hce
            refine L_reg [4] (fun K hK => ?_)
            simp
            apply hK; clear hK K
            exact L_ret ⟨.inr rfl, _, rfl, by rw [hce] at h; exact h⟩
          · rw [if_neg h2] at hce
            refine L_reg [0, 6, 14, 15, 16] (fun K hK => ?_)
            simp
            apply hK; clear hK K
            refine L_reg [0, 6, 14, 15, 16] (fun K hK => ?_)
            simp [wrap_i64 (a := (i : Int) + 1) (by omega)]
            apply hK; clear hK K
            exact ⟨l.length - (i + 1), [.int .i64 x, .int .i64 (i + 1 : Nat)], by omega, by simp, i + 1, x, rfl, by omega, hce, rfl, rfl⟩
    · have : i = l.length := by omega
      subst this
      rw [List.drop_length] at hce
      refine L_reg [4] (fun K hK => ?_)
      simp
      apply hK; clear hK K
      exact L_ret ⟨.inr rfl, _, rfl, by rw [hce] at h; exact h⟩
end Go.Proofs.Ytmoifofihafgmaa

/- The round of a size: what is yielded. -/
namespace Go.Proofs.Ytmoifofihafgmaa
open Go Go.Proofs.Ytmoifofihafgmaa.AX

def iota (n : Nat) : List Int := (List.range n).map fun i : Nat => (i : Int)
theorem iota_succ (n : Nat) : iota (n + 1) = iota n ++ [(n : Int)] := by simp [iota, List.range_succ]
@[simp] theorem iota_len (n : Nat) : (iota n).length = n := by simp [iota]
/-- All blends of a size, in their round. -/
def roundS : Nat → Nat → List (List Int)
  | 0, k => if k = 0 then [[]] else []
  | n + 1, k => if k = 0 then [[]] else if k = n + 1 then [iota (n + 1)] else roundS n k ++ (roundS n (k - 1)).reverse.map (· ++ [(n : Int)])
def feed (n k : Nat) (opp : Bool) : List (List Int) := if opp then (roundS n k).reverse else roundS n k
theorem roundS_zero (n : Nat) : roundS n 0 = [[]] := by cases n <;> simp [roundS]
theorem roundS_full (n : Nat) : roundS n n = [iota n] := by cases n <;> simp [roundS, iota]
theorem feed_zero (n : Nat) (opp : Bool) : feed n 0 opp = [[]] := by cases opp <;> simp [feed, roundS_zero]
theorem feed_full (n : Nat) (opp : Bool) : feed (n + 1) (n + 1) opp = (feed n n (!opp)).map (· ++ [(n : Int)]) := by
  cases opp <;> simp [feed, roundS_full, iota_succ]
theorem feed_opp {n k : Nat} (h0 : 0 < k) (hk : k ≤ n) : feed (n + 1) k true = (feed n (k - 1) false).map (· ++ [(n : Int)]) ++ feed n k true := by
  simp [feed, roundS, show k ≠ 0 by omega, show k ≠ n + 1 by omega]
theorem feed_fwd {n k : Nat} (h0 : 0 < k) (hk : k ≤ n) : feed (n + 1) k false = feed n k false ++ (feed n (k - 1) true).map (· ++ [(n : Int)]) := by
  simp [feed, roundS, show k ≠ 0 by omega, show k ≠ n + 1 by omega]
theorem roundS_len : ∀ (n k : Nat) (l : List Int), l ∈ roundS n k → l.length = k
  | 0, k, l, h => by
    simp only [roundS] at h
    split at h
    · simp at h; subst h; simp_all
    · simp at h
  | n + 1, k, l, h => by
    simp only [roundS] at h
    split at h
    · simp at h; subst h; simp_all
    · split at h
      · simp at h; subst h; simp_all
      · rw [List.mem_append] at h
        rcases h with h | h
        · exact roundS_len n k l h
        · simp only [List.mem_map, List.mem_reverse] at h
          obtain ⟨m, hm, rfl⟩ := h
          have := roundS_len n (k - 1) m hm
          simp; omega

/-- The doors behind w are as they were. -/
def KeepW (w : Nat) (H H' : AH) : Prop := H.length ≤ H'.length ∧ ∀ (j N r s : Nat), w < j → H[j]? = some (.row [.slice (some w) 0 N 0 1 false, .yld r] 0 s false) → H'[j]? = some (.row [.slice (some w) 0 N 0 1 false, .yld r] 0 s false)
theorem KeepW.refl (w : Nat) (H : AH) : KeepW w H H := ⟨Nat.le_refl _, fun _ _ _ _ _ h => h⟩
theorem KeepW.trans {w : Nat} {A B C : AH} (h : KeepW w A B) (k : KeepW w B C) : KeepW w A C := ⟨Nat.le_trans h.1 k.1, fun j N r s h1 h2 => k.2 j N r s h1 (h.2 j N r s h1 h2)⟩
theorem KeepW.push (w : Nat) (H T : AH) : KeepW w H (H ++ T) := ⟨by simp, fun j _ _ _ _ h2 => by rw [List.getElem?_append_left (List.getElem?_eq_some_iff.1 h2).1]; exact h2⟩
theorem KeepW.set (w : Nat) (H : AH) (o : AObj) : KeepW w H (H.set w o) := ⟨by simp, fun j _ _ _ h1 h2 => by rw [List.getElem?_set_ne (by omega)]; exact h2⟩
theorem KeepW.row {w N r s : Nat} {H H' : AH} (h : KeepW w H H') {j : Nat} (hj : w < j) (ho : H[j]? = some (.row [.slice (some w) 0 N 0 1 false, .yld r] 0 s false)) : H'[j]? = some (.row [.slice (some w) 0 N 0 1 false, .yld r] 0 s false) := h.2 j N r s hj ho
/-- All rows but w are as they were. -/
def OffW (w : Nat) (H H' : AH) : Prop := H.length ≤ H'.length ∧ ∀ j : Nat, j ≠ w → j < H.length → H'[j]? = H[j]?

/-- Who is given blends, one after the other: what still comes, and what holds then. -/
structure Fd (r w N : Nat) (J : List (List Int) → AH → Prop) (Z : AH → Prop) : Prop where
  same : ∀ (rest : List (List Int)) (H H' : AH), OffW w H H' → J rest H → J rest H'
  yld : ∀ (l : List Int) (rest : List (List Int)) (H : AH) (st : Nat), J (l :: rest) H → H[w]? = some (.row (l.map (.int .i64)) 0 st false) → AYld Try.prog r [.slice (some w) 0 N 0 1 false] H fun v H' =>
    ∃ t, v = .bool t ∧ if t = true then J rest H' ∧ KeepW w H H' ∧ ∃ st', H'[w]? = some (.row (l.map (.int .i64)) 0 st' false) else Z H'

section
variable {r w N : Nat} {J : List (List Int) → AH → Prop} {Z : AH → Prop}
def TurnOk (r w N : Nat) (J : List (List Int) → AH → Prop) (Z : AH → Prop) (n : Nat) : Prop := ∀ (k : Nat) (opp : Bool) (s c : List Int) (rest : List (List Int)) (st : Nat) (H : AH) (Q : AV → AH → Prop), k ≤ n → c.length = N → c.drop k = s → k ≤ N →
  H[w]? = some (.row (c.map (.int .i64)) 0 st false) → J ((feed n k opp).map (· ++ s) ++ rest) H →
  (∀ (H' : AH) (c' : List Int) (st' : Nat), J rest H' → KeepW w H H' → c'.length = N → c'.drop k = s → H'[w]? = some (.row (c'.map (.int .i64)) 0 st' false) → Q (.bool true) H') → (∀ H' : AH, Z H' → Q (.bool false) H') →
  AC Try.prog 100 [.agg [.slice (some w) 0 N 0 1 false, .yld r], .int .i64 n, .int .i64 k, .bool opp] H Q

theorem box2 {H : AH} {a b : AV} : (H ++ [AObj.row [a, b] 0 0 false])[H.length]? = some (.row [a, b] 0 0 false) := by simp
theorem lt_of_row {H : AH} {w : Nat} {o : AObj} (h : H[w]? = some o) : w < H.length := (List.getElem?_eq_some_iff.1 h).1

set_option maxRecDepth 100000 in
theorem add_ac (hF : Fd r w N J Z) (n : Nat) (hn : n ≤ 9) (hT : TurnOk r w N J Z n) (k : Nat) (opp : Bool) (s c : List Int) (rest : List (List Int)) (st : Nat) (H : AH) (Q : AV → AH → Prop) (h0 : 0 < k) (hk : k ≤ n + 1) (hc : c.length = N) (hs : c.drop k = s) (hN : k ≤ N)
    (hrow : H[w]? = some (.row (c.map (.int .i64)) 0 st false)) (hJ : J ((feed n (k - 1) (!opp)).map (· ++ ((n : Int) :: s)) ++ rest) H)
    (h1 : ∀ (H' : AH) (c' : List Int) (st' : Nat), J rest H' → KeepW w H H' → c'.length = N → c'.drop k = s → H'[w]? = some (.row (c'.map (.int .i64)) 0 st' false) → Q (.bool true) H') (h2 : ∀ H' : AH, Z H' → Q (.bool false) H') :
    AC Try.prog 113 [.agg [.slice (some w) 0 N 0 1 false, .yld r], .int .i64 ((n : Int) + 1), .int .i64 k, .bool opp] H Q := by
  have hwl := lt_of_row hrow
  refine L_body 24 Try.func113 rfl rfl ?_
  refine L_reg [1, 2, 3, 4] (fun K hK => ?_)
  simp [AV.isU, acells]
  apply hK; clear hK K
  have hb : (H ++ [AObj.row [.slice (some w) 0 N 0 1 false, .yld r] 0 0 false])[H.length]? = some (.row [.slice (some w) 0 N 0 1 false, .yld r] 0 0 false) := by simp
  have hJ1 := hF.same _ _ (H ++ [AObj.row [.slice (some w) 0 N 0 1 false, .yld r] 0 0 false]) ⟨by simp, fun j _ hj => List.getElem?_append_left hj⟩ hJ
  have hrow1 : (H ++ [AObj.row [.slice (some w) 0 N 0 1 false, .yld r] 0 0 false])[w]? = some (.row (c.map (.int .i64)) 0 st false) := by rw [List.getElem?_append_left hwl]; exact hrow
  have hbw : w ≠ H.length := by omega
  have hk1 : KeepW w H (H ++ [AObj.row [.slice (some w) 0 N 0 1 false, .yld r] 0 0 false]) := .push ..
  generalize H ++ [AObj.row [.slice (some w) 0 N 0 1 false, .yld r] 0 0 false] = H1 at hb hJ1 hrow1 hk1 ⊢
  generalize H.length = b at hb hbw ⊢
  have e0 : ld H1 b 0 0 = some (.slice (some w) 0 N 0 1 false) := by rw [ld_row hb]; rfl
  obtain ⟨m, rfl⟩ : ∃ m, k = m + 1 := ⟨k - 1, by omega⟩
  have hst := store_row (P := Try.prog) (u := 3) (p := m) sc3 (x := .int .i64 (n : Int)) (y := .int .i64 c[m]) rfl hrow1 (by rw [List.getElem?_map, List.getElem?_eq_getElem (by omega)]; rfl)
  have hrow2 : (H1.set w (.row ((c.map (.int .i64)).set m (.int .i64 (n : Int))) 0 (min st m) false))[w]? = some (.row ((c.map (.int .i64)).set m (.int .i64 (n : Int))) 0 (min st m) false) := get_set hrow1
  have hb2 : (H1.set w (.row ((c.map (.int .i64)).set m (.int .i64 (n : Int))) 0 (min st m) false))[b]? = some (.row [.slice (some w) 0 N 0 1 false, .yld r] 0 0 false) := by rw [List.getElem?_set_ne hbw]; exact hb
  have hJ2 := hF.same _ _ (H1.set w (.row ((c.map (.int .i64)).set m (.int .i64 (n : Int))) 0 (min st m) false)) ⟨by simp, fun j hj _ => List.getElem?_set_ne (Ne.symm hj)⟩ hJ1
  have hk2 := hk1.trans (.set w H1 (.row ((c.map (.int .i64)).set m (.int .i64 (n : Int))) 0 (min st m) false))
  refine L_reg [1, 2, 3, 4] (fun K hK => ?_)
  simp [e0, wrap_i64 (a := (m : Int)) (by omega), wrap_i64 (a := (n : Int)) (by omega), show m < N by omega, hst]
  apply hK; clear hK K
  generalize H1.set w (.row ((c.map (.int .i64)).set m (.int .i64 (n : Int))) 0 (min st m) false) = H2 at hrow2 hb2 hJ2 hk2
  rw [show (c.map (.int .i64)).set m (AV.int .i64 (n : Int)) = (c.set m (n : Int)).map (.int .i64) by rw [List.map_set]] at hrow2
  have e2 : ldn H2 b 0 2 0 = some [.slice (some w) 0 N 0 1 false, .yld r] := by rw [ldn_row hb2]; rfl
  have hd : (c.set m (n : Int)).drop m = (n : Int) :: s := by
    rw [List.drop_eq_getElem_cons (by simp; omega)]
    rw [List.drop_set_of_lt (by omega), hs]
    simp
  refine L_reg [8] (fun K hK => ?_)
  simp [okFn_low, e2, wrap_i64 (a := (m : Int)) (by omega), wrap_i64 (a := (n : Int)) (by omega)]
  refine hT m (!opp) ((n : Int) :: s) (c.set m (n : Int)) rest (min st m) H2 _ (by omega) (by simp [hc]) hd (by omega) hrow2 hJ2 (fun H' c' st' g1 gk g2 g3 g4 => ?_) (fun H' g1 => ?_)
  · simp
    apply hK; clear hK K
    exact L_ret ⟨.inr rfl, _, rfl, h1 _ c' st' g1 (hk2.trans gk) g2 (by have := congrArg (List.drop 1) g3; rw [List.drop_drop] at this; simpa [Nat.add_comm] using this) g4⟩
  · simp
    apply hK; clear hK K
    exact L_ret ⟨.inr rfl, _, rfl, h2 _ g1⟩

set_option maxRecDepth 100000 in
theorem turn_ok (hF : Fd r w N J Z) (_hrw : r < w) : ∀ n, n ≤ 10 → TurnOk r w N J Z n := by
  intro n
  induction n with
  | zero =>
    intro hn k opp s c rest st H Q hk hc hs hN hrow hJ h1 h2
    obtain rfl : k = 0 := by omega
    have hwl := lt_of_row hrow
    refine L_body 50 Try.func100 rfl rfl ?_
    refine L_reg [1, 2, 3, 4] (fun K hK => ?_)
    simp [AV.isU, acells]
    apply hK; clear hK K
    have hb : (H ++ [AObj.row [.slice (some w) 0 N 0 1 false, .yld r] 0 0 false])[H.length]? = some (.row [.slice (some w) 0 N 0 1 false, .yld r] 0 0 false) := by simp
    have hJ1 := hF.same _ _ (H ++ [AObj.row [.slice (some w) 0 N 0 1 false, .yld r] 0 0 false]) ⟨by simp, fun j _ hj => List.getElem?_append_left hj⟩ hJ
    have hrow1 : (H ++ [AObj.row [.slice (some w) 0 N 0 1 false, .yld r] 0 0 false])[w]? = some (.row (c.map (.int .i64)) 0 st false) := by rw [List.getElem?_append_left hwl]; exact hrow
    have hk1 : KeepW w H (H ++ [AObj.row [.slice (some w) 0 N 0 1 false, .yld r] 0 0 false]) := .push ..
    generalize H ++ [AObj.row [.slice (some w) 0 N 0 1 false, .yld r] 0 0 false] = H1 at hb hJ1 hrow1 hk1 ⊢
    generalize H.length = b at hb ⊢
    have e0 : ld H1 b 0 0 = some (.slice (some w) 0 N 0 1 false) := by rw [ld_row hb]; rfl
    have e1 : ld H1 b 1 0 = some (.yld r) := by rw [ld_row hb]; rfl
    rw [feed_zero] at hJ1
    simp only [List.drop_zero] at hs
    subst hs
    refine L_block ?_
    refine L_reg [1, 2, 3, 4, 20] (fun K hK => ?_)
    simp
    apply hK; clear hK K
    refine L_true (by simp) ?_
    refine L_reg [8] (fun K hK => ?_)
    simp [e0, e1]
    refine (hF.yld _ rest H1 st (by simpa using hJ1) hrow1).mono ?_
    rintro _ H' ⟨t, rfl, ht⟩
    simp
    apply hK; clear hK K
    cases t with
    | true =>
      obtain ⟨g1, g2, st', g3⟩ := ht
      exact L_ret ⟨.inr rfl, _, rfl, h1 _ _ st' g1 (hk1.trans g2) hc (by simp) g3⟩
    | false =>
      exact L_ret ⟨.inr rfl, _, rfl, h2 _ ht⟩
  | succ n ih =>
    intro hn k opp s c rest st H Q hk hc hs hN hrow hJ h1 h2
    have hT := ih (by omega)
    have hwl := lt_of_row hrow
    refine L_body 50 Try.func100 rfl rfl ?_
    refine L_reg [1, 2, 3, 4] (fun K hK => ?_)
    simp [AV.isU, acells]
    apply hK; clear hK K
    have hb : (H ++ [AObj.row [.slice (some w) 0 N 0 1 false, .yld r] 0 0 false])[H.length]? = some (.row [.slice (some w) 0 N 0 1 false, .yld r] 0 0 false) := by simp
    have hJ1 := hF.same _ _ (H ++ [AObj.row [.slice (some w) 0 N 0 1 false, .yld r] 0 0 false]) ⟨by simp, fun j _ hj => List.getElem?_append_left hj⟩ hJ
    have hrow1 : (H ++ [AObj.row [.slice (some w) 0 N 0 1 false, .yld r] 0 0 false])[w]? = some (.row (c.map (.int .i64)) 0 st false) := by rw [List.getElem?_append_left hwl]; exact hrow
    have hk1 : KeepW w H (H ++ [AObj.row [.slice (some w) 0 N 0 1 false, .yld r] 0 0 false]) := .push ..
    have hbw : w < H.length := hwl
    generalize H ++ [AObj.row [.slice (some w) 0 N 0 1 false, .yld r] 0 0 false] = H1 at hb hJ1 hrow1 hk1 ⊢
    generalize H.length = b at hb hbw ⊢
    have e0 : ld H1 b 0 0 = some (.slice (some w) 0 N 0 1 false) := by rw [ld_row hb]; rfl
    have e1 : ld H1 b 1 0 = some (.yld r) := by rw [ld_row hb]; rfl
    have e2 : ldn H1 b 0 2 0 = some [.slice (some w) 0 N 0 1 false, .yld r] := by rw [ldn_row hb]; rfl
    refine L_block ?_
    refine L_reg [1, 2, 3, 4, 20] (fun K hK => ?_)
    simp
    apply hK; clear hK K
    refine L_dec ((k : Int) = 0) rfl (fun hk0 => ?_) (fun hk0 => ?_)
    · obtain rfl : k = 0 := by omega
      rw [feed_zero] at hJ1
      simp only [List.drop_zero] at hs
      subst hs
      refine L_reg [8] (fun K hK => ?_)
      simp [e0, e1]
      refine (hF.yld _ rest H1 st (by simpa using hJ1) hrow1).mono ?_
      rintro _ H' ⟨t, rfl, ht⟩
      simp
      apply hK; clear hK K
      cases t with
      | true =>
        obtain ⟨g1, g2, st', g3⟩ := ht
        exact L_ret ⟨.inr rfl, _, rfl, h1 _ _ st' g1 (hk1.trans g2) hc (by simp) g3⟩
      | false =>
        exact L_ret ⟨.inr rfl, _, rfl, h2 _ ht⟩
    · refine L_reg [1, 2, 3, 4, 28] (fun K hK => ?_)
      simp
      apply hK; clear hK K
      refine L_dec ((k : Int) = (n : Int) + 1) rfl (fun hkn => ?_) (fun hkn => ?_)
      · obtain rfl : k = n + 1 := by omega
        rw [feed_full, List.map_map] at hJ1
        refine L_reg [8] (fun K hK => ?_)
        simp [okFn_low, e2]
        refine add_ac hF n (by omega) hT (n + 1) opp s c rest st H1 _ (by omega) (by omega) hc hs hN hrow1 (by simpa [Function.comp_def] using hJ1) (fun H' c' st' g1 gk g2 g3 g4 => ?_) (fun H' g1 => ?_)
        · simp
          apply hK; clear hK K
          exact L_ret ⟨.inr rfl, _, rfl, h1 _ c' st' g1 (hk1.trans gk) g2 g3 g4⟩
        · simp
          apply hK; clear hK K
          exact L_ret ⟨.inr rfl, _, rfl, h2 _ g1⟩
      · have hkn' : k ≤ n := by omega
        refine L_reg [1, 2, 4, 37] (fun K hK => ?_)
        simp
        apply hK; clear hK K
        refine L_split rfl (fun ht => ?_) (fun hf => ?_)
        · obtain rfl : opp = true := by simpa using ht
          rw [feed_opp (by omega) hkn', List.map_append, List.map_map, List.append_assoc] at hJ1
          refine L_reg [8] (fun K hK => ?_)
          simp [okFn_low, e2]
          refine add_ac hF n (by omega) hT k true s c _ st H1 _ (by omega) (by omega) hc hs hN hrow1 (by simpa [Function.comp_def] using hJ1) (fun H' c' st' g1 gk g2 g3 g4 => ?_) (fun H' g1 => ?_)
          · have hb' := gk.row (by omega) hb
            have e2' : ldn H' b 0 2 0 = some [.slice (some w) 0 N 0 1 false, .yld r] := by rw [ldn_row hb']; rfl
            simp [e2', okFn_low, wrap_i64 (a := (n : Int)) (by omega)]
            refine hT k true s c' rest st' H' _ hkn' g2 g3 hN g4 g1 (fun H2 c2 st2 f1 fk f2 f3 f4 => ?_) (fun H2 f1 => ?_)
            · simp [pickV]
              apply hK; clear hK K
              exact L_ret ⟨.inr rfl, _, rfl, h1 _ c2 st2 f1 (hk1.trans (gk.trans fk)) f2 f3 f4⟩
            · simp [pickV]
              apply hK; clear hK K
              exact L_ret ⟨.inr rfl, _, rfl, h2 _ f1⟩
          · simp [pickV]
            apply hK; clear hK K
            exact L_ret ⟨.inr rfl, _, rfl, h2 _ g1⟩
        · obtain rfl : opp = false := by simpa using hf
          rw [feed_fwd (by omega) hkn', List.map_append, List.map_map, List.append_assoc] at hJ1
          refine L_reg [8] (fun K hK => ?_)
          simp [okFn_low, e2, wrap_i64 (a := (n : Int)) (by omega)]
          refine hT k false s c _ st H1 _ hkn' hc hs hN hrow1 (by simpa [Function.comp_def] using hJ1) (fun H' c' st' g1 gk g2 g3 g4 => ?_) (fun H' g1 => ?_)
          · have hb' := gk.row (by omega) hb
            have e2' : ldn H' b 0 2 0 = some [.slice (some w) 0 N 0 1 false, .yld r] := by rw [ldn_row hb']; rfl
            simp [e2', okFn_low]
            refine add_ac hF n (by omega) hT k false s c' rest st' H' _ (by omega) (by omega) g2 g3 hN g4 (by simpa [Function.comp_def] using g1) (fun H2 c2 st2 f1 fk f2 f3 f4 => ?_) (fun H2 f1 => ?_)
            · simp [pickV]
              apply hK; clear hK K
              exact L_ret ⟨.inr rfl, _, rfl, h1 _ c2 st2 f1 (hk1.trans (gk.trans fk)) f2 f3 f4⟩
            · simp [pickV]
              apply hK; clear hK K
              exact L_ret ⟨.inr rfl, _, rfl, h2 _ f1⟩
          · simp [pickV]
            apply hK; clear hK K
            exact L_ret ⟨.inr rfl, _, rfl, h2 _ g1⟩
end
end Go.Proofs.Ytmoifofihafgmaa

/- Small functions: copies, comparisons. -/
namespace Go.Proofs.Ytmoifofihafgmaa
open Go Go.Proofs.Ytmoifofihafgmaa.AX
@[simp] theorem s_isc_copy (xs : Array Operand) (ts : Array TypeId) : isFnCall (.call ⟨.builtin .copy, xs, ts⟩) = false := rfl
@[simp] theorem x_copy {P : Program} {H : AH} {ρ : Operand → AV} (x y : Operand) (t u : TypeId) : execN P ρ H (.call ⟨.builtin .copy, #[x, y], #[t, u]⟩) = appV (aCopy P H t (ρ x) (ρ y)) := by
  have : execN P ρ H (.call ⟨.builtin .copy, #[x, y], #[t, u]⟩) = (aCopy P H t (ρ x) (ρ y)).map fun p => (some p.1, p.2) := rfl
  rw [this]
  cases aCopy P H t (ρ x) (ρ y) <;> rfl
theorem ldn_ints {H : AH} {r ver : Nat} : ∀ {m : List Int} {p : Nat}, (∀ i (h : i < m.length), ld H r (p + i) ver = some (.int .i64 m[i])) → ldn H r ver m.length p = some (m.map (.int .i64))
  | [], _, _ => rfl
  | x :: m, p, h => by
    have h0 := h 0 (by simp)
    simp only [Nat.add_zero, List.getElem_cons_zero] at h0
    have h1 : ldn H r ver m.length (p + 1) = some (m.map (.int .i64)) := ldn_ints fun i hi => by
      have := h (i + 1) (by simpa using hi)
      simp only [List.getElem_cons_succ] at this
      rw [← this]; congr 1; omega
    rw [List.length_cons, ldn_succ, h0, Option.bind_some, h1]
    rfl
theorem src_ls {P : Program} {H : AH} {u : TypeId} {x : AV} {m : List Int} (hu : elT P u = true) (hx : Ls H x m) : aSrc P H u 1 x = some (m.length, m.map (.int .i64)) := by
  obtain ⟨e', I', g1, -⟩ := elT_some hu
  obtain ⟨r, off, ver, sz, full, rfl, hld⟩ := hx
  unfold aSrc
  rw [g1]
  cases m with
  | nil => cases r <;> simp
  | cons y m =>
    obtain ⟨r', rfl, rfl, -⟩ := hld 0 (by simp)
    have h1 : ldn H r' ver (y :: m).length off = some ((y :: m).map (.int .i64)) := ldn_ints fun i hi => by
      obtain ⟨r2, h2, -, h3⟩ := hld i hi
      obtain rfl := Option.some.inj h2
      exact h3
    simp only [Nat.mul_one, h1]
    simp
theorem all_ints (m : List Int) : (m.map (AV.int .i64)).all AV.one = true := by
  rw [List.all_eq_true]
  intro x hx
  obtain ⟨i, -, rfl⟩ := List.mem_map.1 hx
  rfl
/-- append([]int{}, x...) -/
theorem copy_append {P : Program} {H : AH} {t u : TypeId} (ht : elT P t = true) (hu : elT P u = true) {x : AV} {m : List Int} (hx : Ls H x m) (hm : m.length ≤ 16777216) :
    ∃ v' H', aAppend P (H ++ [.row [] 0 0 false]) t u (.slice (some H.length) 0 0 0 1 false) x = some (v', H') ∧ OwnF H.length H' v' (m.map (.int .i64)) ∧ Ext H H' := by
  obtain ⟨e, I, h1, h2, h3, h4, -⟩ := elT_some ht
  have hsrc := src_ls hu (hx.ext (.push H [.row [] 0 0 false]))
  have hall := all_ints m
  have hr : (H ++ [AObj.row [] 0 0 false])[H.length]? = some (.row [] 0 0 false) := by simp
  unfold aAppend
  cases m with
  | nil =>
    refine ⟨.slice (some H.length) 0 0 0 1 false, H ++ [.row [] 0 0 false], ?_, .inr ⟨H.length, 0, 0, Nat.le_refl _, rfl, hr⟩, .push _ _⟩
    simp only [List.length_nil, List.map_nil] at hsrc
    simp [h1, h2, h3, h4, hsrc]
  | cons y m =>
    refine ⟨.slice (some H.length) 0 (y :: m).length 1 1 false, (H ++ [AObj.row [] 0 0 false]).set H.length (.row ((y :: m).map (.int .i64)) 1 0 false), ?_, .inr ⟨H.length, 1, 0, Nat.le_refl _, by simp, by simp⟩, (Ext.push _ _).set _ (Nat.le_refl _)⟩
    have hlen : ((y :: m).map (AV.int .i64)).length = (y :: m).length := by simp
    generalize (y :: m).map (AV.int .i64) = vs at *
    have hne : (y :: m).length ≠ 0 := by simp
    generalize (y :: m).length = k at *
    have hin : inPlace (H ++ [AObj.row [] 0 0 false]) H.length 0 0 k 0 1 vs = none := by
      simp [inPlace]
      omega
    simp [h1, h2, h3, h4, hsrc, hlen, hne, grow, hm, hin]
    exact fun x hx => List.all_eq_true.1 hall x hx


theorem takeKnown_ints (n : Nat) : takeKnown n (List.replicate n (AV.int .i64 0)) = some (List.replicate n (AV.int .i64 0)) := by
  induction n with
  | zero => rfl
  | succ n ih => simp only [List.replicate_succ, takeKnown, ih]
theorem copy_new {H H1 : AH} {w n : Nat} {v : AV} {l : List Int} (hw : H1[w]? = some (.row (List.replicate l.length (.int .i64 0)) 0 0 false)) (hv : Ls H1 v l) :
    ∃ s, aCopy Try.prog H1 22 (.slice (some w) 0 l.length 0 1 false) v = some (.int .i64 l.length, H1.set w (.row (l.map (.int .i64)) 0 s false)) := by
  obtain ⟨e, I, h1, h2, h3, h4, -⟩ := elT_some el22
  obtain ⟨i, z, g1, g2, g3, -⟩ := (tiOf_some h2).2
  obtain ⟨r, off, ver, sz, full, rfl, hld⟩ := hv
  have hlw : w < H1.length := (List.getElem?_eq_some_iff.1 hw).1
  cases l with
  | nil =>
    refine ⟨0, ?_⟩
    have hs : H1.set w (.row (List.map (AV.int .i64) []) 0 0 false) = H1 := by
      apply List.ext_getElem?
      intro j
      rw [List.getElem?_set]
      split
      · rename_i h; subst h; rw [hw]; rfl
      · rfl
    rw [hs]
    cases r <;> simp [aCopy, h1, g1, isNilSl, slParts]
  | cons y l =>
    obtain ⟨r', rfl, rfl, -⟩ := hld 0 (by simp)
    have hl : ldn H1 r' ver (y :: l).length off = some ((y :: l).map (.int .i64)) := ldn_ints fun i hi => by
      obtain ⟨r2, e1, -, e3⟩ := hld i hi
      obtain rfl := Option.some.inj e1
      exact e3
    have hone := all_ints (y :: l)
    have hst : stn H1 w 0 ((y :: l).map (.int .i64)) 0 = some (H1.set w (.row ((y :: l).map (.int .i64)) 0 0 false)) := by
      have hk := takeKnown_ints (y :: l).length
      simp only [List.map_cons] at hone ⊢
      simp only [stn, hw, List.drop_zero, List.length_cons, List.length_map] at hk ⊢
      rw [if_pos ⟨trivial, trivial, hone, by rw [hk]; rfl⟩]
      simp
    refine ⟨0, ?_⟩
    have e1 : i.size = 1 := by rw [g3, h3]
    simp only [aCopy, h1, g1, isNilSl, slParts, Bool.false_and, Bool.false_eq_true, if_false, Nat.min_self, e1, Nat.mul_one]
    rw [if_neg (by simp), if_pos ⟨trivial, trivial⟩, hl, Option.bind_some, if_pos hone, hst]
    rfl
set_option maxRecDepth 100000 in
theorem kept_ac (v : AV) (l : List Int) (H : AH) (Q : AV → AH → Prop) (hl : l.length ≤ 1000000) (hv : Ls H v l) (h : ∀ v' H', OwnF H.length H' v' (l.map (.int .i64)) → Ext H H' → Q v' H') : AC Try.prog 73 [v] H Q := by
  obtain ⟨r0, off0, ver0, sz0, full0, hv0, -⟩ := id hv
  refine L_body 11 Try.func73 rfl rfl ?_
  refine L_reg [0] (fun K hK => ?_)
  simp
  apply hK; clear hK K
  refine L_reg [0, 3] (fun K hK => ?_)
  simp [hv0, make_z elz22 (show l.length ≤ 16777216 by omega)]
  apply hK; clear hK K
  have hE1 : Ext H (H ++ [AObj.row (List.replicate l.length (AV.int .i64 0)) 0 0 false]) := .push _ _
  have hw : (H ++ [AObj.row (List.replicate l.length (AV.int .i64 0)) 0 0 false])[H.length]? = some (.row (List.replicate l.length (AV.int .i64 0)) 0 0 false) := by simp
  generalize H ++ [AObj.row (List.replicate l.length (AV.int .i64 0)) 0 0 false] = H1 at hE1 hw ⊢
  obtain ⟨s, hcp⟩ := copy_new (H := H) (n := 0) hw (hv.ext hE1)
  rw [hv0] at hcp
  refine L_reg [3] (fun K hK => ?_)
  simp [hcp]
  apply hK; clear hK K
  refine L_reg [2] (fun K hK => ?_)
  simp
  apply hK; clear hK K
  exact L_ret ⟨.inr rfl, _, rfl, h _ _ (.inr ⟨H.length, 0, s, Nat.le_refl _, by simp, get_set hw⟩) (hE1.set _ (Nat.le_refl _))⟩
theorem same_ac (u v : AV) (l m : List Int) (H : AH) (Q : AV → AH → Prop) (hl : l.length ≤ 1048576) (hu : Ls H u l) (hv : Ls H v m) (h : Q (.bool (decide (l = m))) H) : AC Try.prog 22 [u, v] H Q := by
  obtain ⟨r, off, ver, sz, full, rfl, hu⟩ := hu
  obtain ⟨r2, off2, ver2, sz2, full2, rfl, hv⟩ := hv
  refine L_body 26 Try.func22 rfl rfl ?_
  refine L_reg [0, 1] (fun K hK => ?_)
  simp
  apply hK; clear hK K
  refine L_reg [0, 1, 10] (fun K hK => ?_)
  simp
  apply hK; clear hK K
  by_cases hlen : l.length = m.length
  case neg =>
    refine L_true (by simp; omega) ?_
    refine L_reg [4] (fun K hK => ?_)
    simp
    apply hK; clear hK K
    have : l ≠ m := fun e => hlen (by rw [e])
    rw [decide_eq_false this] at h
    exact L_ret ⟨.inr rfl, _, rfl, h⟩
  refine L_false (by simp [hlen]) ?_
  refine L_reg [0, 1, 5] (fun K hK => ?_)
  simp
  apply hK; clear hK K
  refine L_block (L_loopV [5] (fun k vs H' => ∃ (i : Nat), k = l.length - i ∧ i ≤ l.length ∧ (l.drop i = m.drop i → l = m) ∧ vs = [.int .i64 i] ∧ H' = H) _ [.int .i64 (0 : Nat)] rfl ⟨0, rfl, by omega, by simp, rfl, rfl⟩ ?_)
  rintro k _ _ ⟨i, rfl, hi, hs, rfl, rfl⟩
  refine L_reg [0, 1, 5, 14] (fun K hK => ?_)
  simp
  apply hK; clear hK K
  refine L_dec (i < l.length) (by simp) (fun hlt => ?_) (fun hge => L_exit ?_)
  · obtain ⟨r', rfl, rfl, hld⟩ := hu i hlt
    obtain ⟨r3, rfl, rfl, hld2⟩ := hv i (by omega)
    rw [List.drop_eq_getElem_cons hlt, List.drop_eq_getElem_cons (by omega : i < m.length)] at hs
    refine L_block ?_
    refine L_regT mixed [0, 1, 5, 25] (by kernel_rfl) (fun K hK => ?_)
    simp [hlt, ← hlen, hld, hld2]
    apply hK; clear hK K
    by_cases he : l[i] = m[i]
    · refine L_false (by simp [he]) ?_
      rw [he] at hs
      refine L_reg [0, 1, 5] (fun K hK => ?_)
      simp [wrap_i64 (a := (i : Int) + 1) (by omega)]
      apply hK; clear hK K
      exact ⟨l.length - (i + 1), [.int .i64 (i + 1 : Nat)], by omega, by simp [hlen], i + 1, rfl, by omega, fun e => hs (by rw [e]), rfl, rfl⟩
    · refine L_true (by simp [he]) ?_
      refine L_reg [4] (fun K hK => ?_)
      simp
      apply hK; clear hK K
      have : l ≠ m := fun e => he (by subst e; rfl)
      rw [decide_eq_false this] at h
      exact L_ret ⟨.inr rfl, _, rfl, h⟩
  · refine L_reg [4] (fun K hK => ?_)
    simp
    apply hK; clear hK K
    have : l = m := hs (by rw [List.drop_eq_nil_of_le (by omega), List.drop_eq_nil_of_le (by omega)])
    rw [decide_eq_true this] at h
    exact L_ret ⟨.inr rfl, _, rfl, h⟩
theorem rsame_ac (u v : AV) (l m : List Int) (H : AH) (Q : AV → AH → Prop) (hl : l.length ≤ 1048576) (hu : Ls H u l) (hv : Ls H v m) (h : Q (.bool (decide (l = m))) H) : AC Try.prog 64 [u, v] H Q := by
  obtain ⟨r, off, ver, sz, full, rfl, hu⟩ := hu
  obtain ⟨r2, off2, ver2, sz2, full2, rfl, hv⟩ := hv
  refine L_body 26 Try.func64 rfl rfl ?_
  refine L_reg [0, 1] (fun K hK => ?_)
  simp
  apply hK; clear hK K
  refine L_reg [0, 1, 10] (fun K hK => ?_)
  simp
  apply hK; clear hK K
  by_cases hlen : l.length = m.length
  case neg =>
    refine L_true (by simp; omega) ?_
    refine L_reg [4] (fun K hK => ?_)
    simp
    apply hK; clear hK K
    have : l ≠ m := fun e => hlen (by rw [e])
    rw [decide_eq_false this] at h
    exact L_ret ⟨.inr rfl, _, rfl, h⟩
  refine L_false (by simp [hlen]) ?_
  refine L_reg [0, 1, 5] (fun K hK => ?_)
  simp
  apply hK; clear hK K
  refine L_block (L_loopV [5] (fun k vs H' => ∃ (i : Nat), k = l.length - i ∧ i ≤ l.length ∧ (l.drop i = m.drop i → l = m) ∧ vs = [.int .i64 i] ∧ H' = H) _ [.int .i64 (0 : Nat)] rfl ⟨0, rfl, by omega, by simp, rfl, rfl⟩ ?_)
  rintro k _ _ ⟨i, rfl, hi, hs, rfl, rfl⟩
  refine L_reg [0, 1, 5, 14] (fun K hK => ?_)
  simp
  apply hK; clear hK K
  refine L_dec (i < l.length) (by simp) (fun hlt => ?_) (fun hge => L_exit ?_)
  · obtain ⟨r', rfl, rfl, hld⟩ := hu i hlt
    obtain ⟨r3, rfl, rfl, hld2⟩ := hv i (by omega)
    rw [List.drop_eq_getElem_cons hlt, List.drop_eq_getElem_cons (by omega : i < m.length)] at hs
    refine L_block ?_
    refine L_regT mixed [0, 1, 5, 25] (by kernel_rfl) (fun K hK => ?_)
    simp [hlt, ← hlen, hld, hld2]
    apply hK; clear hK K
    by_cases he : l[i] = m[i]
    · refine L_false (by simp [he]) ?_
      rw [he] at hs
      refine L_reg [0, 1, 5] (fun K hK => ?_)
      simp [wrap_i64 (a := (i : Int) + 1) (by omega)]
      apply hK; clear hK K
      exact ⟨l.length - (i + 1), [.int .i64 (i + 1 : Nat)], by omega, by simp [hlen], i + 1, rfl, by omega, fun e => hs (by rw [e]), rfl, rfl⟩
    · refine L_true (by simp [he]) ?_
      refine L_reg [4] (fun K hK => ?_)
      simp
      apply hK; clear hK K
      have : l ≠ m := fun e => he (by subst e; rfl)
      rw [decide_eq_false this] at h
      exact L_ret ⟨.inr rfl, _, rfl, h⟩
  · refine L_reg [4] (fun K hK => ?_)
    simp
    apply hK; clear hK K
    have : l = m := hs (by rw [List.drop_eq_nil_of_le (by omega), List.drop_eq_nil_of_le (by omega)])
    rw [decide_eq_true this] at h
    exact L_ret ⟨.inr rfl, _, rfl, h⟩
theorem has_ac (v : AV) (l : List Int) (x : Int) (H : AH) (Q : AV → AH → Prop) (hl : l.length ≤ 1000000) (hv : Ls H v l) (h : Q (.bool (decide (x ∈ l))) H) : AC Try.prog 96 [v, .int .i64 x] H Q := by
  obtain ⟨r, off, ver, sz, full, rfl, hld⟩ := hv
  refine L_body 18 Try.func96 rfl rfl ?_
  refine L_reg [0, 1] (fun K hK => ?_)
  simp
  apply hK; clear hK K
  refine L_reg [0, 1, 5] (fun K hK => ?_)
  simp
  apply hK; clear hK K
  refine L_block (L_loopV [5] (fun m vs H' => ∃ i : Nat, m = l.length - i ∧ i ≤ l.length ∧ x ∉ l.take i ∧ vs = [.int .i64 i] ∧ H = H') _ [.int .i64 (0 : Nat)] rfl ⟨0, rfl, by omega, by simp, rfl, rfl⟩ ?_)
  rintro m _ _ ⟨i, rfl, hi, hx, rfl, rfl⟩
  refine L_reg [0, 1, 5, 9] (fun K hK => ?_)
  simp
  apply hK; clear hK K
  refine L_dec (i < l.length) (by simp) (fun hlt => ?_) (fun hge => L_exit ?_)
  · obtain ⟨r', rfl, rfl, hrd⟩ := hld i hlt
    refine L_block ?_
    refine L_reg [0, 1, 5, 17] (fun K hK => ?_)
    simp [hlt, hrd]
    apply hK; clear hK K
    refine L_dec (l[i] = x) (by simp; rfl) (fun he => ?_) (fun he => ?_)
    · refine L_reg [4] (fun K hK => ?_)
      simp
      apply hK; clear hK K
      have hm : x ∈ l := by rw [← he]; exact List.getElem_mem hlt
      exact L_ret ⟨.inr rfl, _, rfl, by simpa [hm] using h⟩
    · refine L_reg [0, 1, 5] (fun K hK => ?_)
      simp [wrap_i64 (a := (i : Int) + 1) (by omega)]
      apply hK; clear hK K
      refine ⟨l.length - (i + 1), [.int .i64 (i + 1 : Nat)], by omega, by simp, i + 1, rfl, by omega, ?_, rfl, rfl⟩
      rw [List.take_succ_eq_append_getElem hlt]
      intro hm
      rcases List.mem_append.1 hm with h1 | h1
      · exact hx h1
      · exact he (List.mem_singleton.1 h1).symm
  · rw [List.take_of_length_le (by omega)] at hx
    refine L_reg [4] (fun K hK => ?_)
    simp
    apply hK; clear hK K
    exact L_ret ⟨.inr rfl, _, rfl, by simpa [hx] using h⟩
theorem in_ac (x lo hi : Int) (H : AH) (Q : AV → AH → Prop) (h : Q (.bool (decide (lo ≤ x ∧ x ≤ hi))) H) : AC Try.prog 66 [.int .i64 x, .int .i64 lo, .int .i64 hi] H Q := by
  refine L_body 15 Try.func66 rfl rfl ?_
  refine L_reg [0, 1, 2] (fun K hK => ?_)
  simp
  apply hK; clear hK K
  by_cases h1 : lo ≤ x
  · by_cases h2 : x ≤ hi
    · refine L_reg [6] (fun K hK => ?_)
      simp [h1, h2, pickV]
      apply hK; clear hK K
      exact L_ret ⟨.inr rfl, _, rfl, by simpa [h1, h2] using h⟩
    · refine L_reg [6] (fun K hK => ?_)
      simp [h1, h2, pickV]
      apply hK; clear hK K
      exact L_ret ⟨.inr rfl, _, rfl, by simpa [h1, h2] using h⟩
  · refine L_reg [6] (fun K hK => ?_)
    simp [h1, pickV]
    apply hK; clear hK K
    exact L_ret ⟨.inr rfl, _, rfl, by simpa [h1] using h⟩

theorem Equal_ac (u v : AV) (l m : List Int) (H : AH) (Q : AV → AH → Prop) (hl : l.length ≤ 1048576) (hu : Ls H u l) (hv : Ls H v m) (h : Q (.bool (decide (l = m))) H) : AC Try.prog 93 [u, v] H Q := by
  obtain ⟨r, off, ver, sz, full, rfl, hu⟩ := hu
  obtain ⟨r2, off2, ver2, sz2, full2, rfl, hv⟩ := hv
  refine L_body 26 Try.func93 rfl rfl ?_
  refine L_reg [0, 1] (fun K hK => ?_)
  simp
  apply hK; clear hK K
  refine L_reg [0, 1, 10] (fun K hK => ?_)
  simp
  apply hK; clear hK K
  by_cases hlen : l.length = m.length
  case neg =>
    refine L_true (by simp; omega) ?_
    refine L_reg [4] (fun K hK => ?_)
    simp
    apply hK; clear hK K
    have : l ≠ m := fun e => hlen (by rw [e])
    rw [decide_eq_false this] at h
    exact L_ret ⟨.inr rfl, _, rfl, h⟩
  refine L_false (by simp [hlen]) ?_
  refine L_reg [0, 1, 12, 13] (fun K hK => ?_)
  simp
  apply hK; clear hK K
  refine L_block (L_loopV [13] (fun k vs H' => ∃ (i : Nat), k = l.length - i ∧ i ≤ l.length ∧ (l.drop i = m.drop i → l = m) ∧ vs = [.int .i64 i] ∧ H' = H) _ [.int .i64 (0 : Nat)] rfl ⟨0, rfl, by omega, by simp, rfl, rfl⟩ ?_)
  rintro k _ _ ⟨i, rfl, hi, hs, rfl, rfl⟩
  refine L_reg [0, 1, 12, 13, 14] (fun K hK => ?_)
  simp
  apply hK; clear hK K
  refine L_dec (i < l.length) (by simp) (fun hlt => ?_) (fun hge => L_exit ?_)
  · obtain ⟨r', rfl, rfl, hld⟩ := hu i hlt
    obtain ⟨r3, rfl, rfl, hld2⟩ := hv i (by omega)
    rw [List.drop_eq_getElem_cons hlt, List.drop_eq_getElem_cons (by omega : i < m.length)] at hs
    refine L_block ?_
    refine L_reg [0, 1, 5, 12, 13] (fun K hK => ?_)
    simp
    apply hK; clear hK K
    refine L_regT mixed [0, 1, 12, 13, 24] (by kernel_rfl) (fun K hK => ?_)
    simp [hlt, ← hlen, hld, hld2]
    apply hK; clear hK K
    by_cases he : l[i] = m[i]
    · refine L_false (by simp [he]) ?_
      rw [he] at hs
      refine L_reg [0, 1, 12, 13] (fun K hK => ?_)
      simp [wrap_i64 (a := (i : Int) + 1) (by omega)]
      apply hK; clear hK K
      exact ⟨l.length - (i + 1), [.int .i64 (i + 1 : Nat)], by omega, by simp [hlen], i + 1, rfl, by omega, fun e => hs (by rw [e]), rfl, rfl⟩
    · refine L_true (by simp [he]) ?_
      refine L_reg [4] (fun K hK => ?_)
      simp
      apply hK; clear hK K
      have : l ≠ m := fun e => he (by subst e; rfl)
      rw [decide_eq_false this] at h
      exact L_ret ⟨.inr rfl, _, rfl, h⟩
  · refine L_reg [4] (fun K hK => ?_)
    simp
    apply hK; clear hK K
    have : l = m := hs (by rw [List.drop_eq_nil_of_le (by omega), List.drop_eq_nil_of_le (by omega)])
    rw [decide_eq_true this] at h
    exact L_ret ⟨.inr rfl, _, rfl, h⟩
end Go.Proofs.Ytmoifofihafgmaa

/- The round of a size, ranged over: how many blends there are. -/
namespace Go.Proofs.Ytmoifofihafgmaa
open Go Go.Proofs.Ytmoifofihafgmaa.AX

set_option maxRecDepth 100000 in
theorem round1_ac (n k : Nat) (hk : k ≤ n) (hn : n ≤ 10) (r ps pl s1 s2 : Nat) (J : List (List Int) → AH → Prop) (Z : AH → Prop) (H : AH) (Q : AV → AH → Prop) (hs : H[ps]? = some (.row [.int .i64 k] 0 s1 false)) (hl : H[pl]? = some (.row [.int .i64 n] 0 s2 false)) (hr : r < H.length)
    (hF : Fd r H.length k J Z) (hJ : J (roundS n k) H) (h1 : ∀ H', J [] H' → Q (.tuple []) H') (h2 : ∀ H', Z H' → Q (.tuple []) H') : AC Try.prog 99 [.yld r, .ptr ps 0 0, .ptr pl 0 0] H Q := by
  have e1 : ld H ps 0 0 = some (.int .i64 k) := by rw [ld_row hs]; rfl
  have e2 : ld H pl 0 0 = some (.int .i64 n) := by rw [ld_row hl]; rfl
  refine L_body 11 Try.func99 rfl rfl ?_
  refine L_regL mixed [] (by simp) (by kernel_rfl) (fun K hK => ?_)
  simp [e1, e2, make_z elz22 (show k ≤ 16777216 by omega), okFn_low]
  have hw : (H ++ [AObj.row (List.replicate k (AV.int .i64 0)) 0 0 false])[H.length]? = some (.row ((List.replicate k (0 : Int)).map (.int .i64)) 0 0 false) := by simp
  have hJ1 := hF.same _ _ (H ++ [AObj.row (List.replicate k (AV.int .i64 0)) 0 0 false]) ⟨by simp, fun j _ hj => List.getElem?_append_left hj⟩ hJ
  refine turn_ok hF hr n hn k false [] (List.replicate k 0) [] 0 _ _ hk (by simp) (by simp) (Nat.le_refl _) hw (by simpa [feed] using hJ1) (fun H' c' st' g1 gk g2 g3 g4 => ?_) (fun H' g1 => ?_)
  · simp
    apply hK; clear hK K
    exact ⟨.inl rfl, _, rfl, h1 _ g1⟩
  · simp
    apply hK; clear hK K
    exact ⟨.inl rfl, _, rfl, h2 _ g1⟩
theorem round_ac (n k : Int) (H : AH) (Q : AV → AH → Prop) (h : Q (.func (.func 99) [] [.ptr (H.length + 1) 0 0, .ptr H.length 0 0]) (H ++ [.row [.int .i64 n] 0 0 false] ++ [.row [.int .i64 k] 0 0 false])) : AC Try.prog 86 [.int .i64 n, .int .i64 k] H Q := by
  refine L_body 6 Try.func86 rfl rfl ?_
  refine L_reg [2, 3] (fun K hK => ?_)
  simp [AV.isU, acells]
  apply hK; clear hK K
  refine L_reg [4] (fun K hK => ?_)
  simp
  apply hK; clear hK K
  exact L_ret ⟨.inr rfl, _, rfl, by simpa using h⟩

/-- Three rows behind H: a number, and what a round is made of. -/
theorem rows3 (H : AH) (a b c : AObj) : (H ++ [a] ++ [b] ++ [c])[H.length]? = some a ∧ (H ++ [a] ++ [b] ++ [c])[H.length + 1]? = some b ∧ (H ++ [a] ++ [b] ++ [c])[H.length + 2]? = some c ∧ (H ++ [a] ++ [b] ++ [c]).length = H.length + 3 ∧ Ext H (H ++ [a] ++ [b] ++ [c]) := by
  refine ⟨?_, ?_, ?_, by simp, ?_⟩
  · simp [List.append_assoc]
  · simp [List.append_assoc]
  · simp [List.append_assoc]
  · rw [List.append_assoc, List.append_assoc]; exact .push _ _
theorem set_ne {H : AH} {i j : Nat} {o : AObj} (h : i ≠ j) : (H.set i o)[j]? = H[j]? := List.getElem?_set_ne h

theorem st_zero (H : AH) (v : Int) : storeV Try.prog 3 (H ++ [AObj.row [AV.int .i64 0] 0 0 false]) (.ptr H.length 0 0) (.int .i64 v) = some (none, H ++ [.row [.int .i64 v] 0 0 false]) := store_last sc3 (y := .int .i64 0) rfl rfl
/-- What three rows behind H turn to. -/
theorem below_ext {H H1 H2 : AH} {w : Nat} (hE : Ext H H1) (hw : H.length ≤ w) (hl : w ≤ H2.length) (h : ∀ j, j < w → H2[j]? = H1[j]?) : Ext H H2 := ⟨by omega, fun j hj => by rw [h j (by omega), hE.2 j hj]⟩

set_option maxRecDepth 100000 in
theorem many_ac (n k : Nat) (hk : k ≤ n) (hn : n ≤ 10) (H : AH) (Q : AV → AH → Prop) (hT : (roundS n k).length ≤ 1000000) (h : ∀ H', Ext H H' → Q (.int .i64 (roundS n k).length) H') : AC Try.prog 60 [.int .i64 n, .int .i64 k] H Q := by
  refine L_body 13 Try.func60 rfl rfl ?_
  refine L_reg [0, 1] (fun K hK => ?_)
  simp
  apply hK; clear hK K
  refine L_reg [0, 1, 5] (fun K hK => ?_)
  simp [alloc_z zt3, st_zero]
  apply hK; clear hK K
  refine L_reg [5, 8] (fun K hK => ?_)
  simp [okFn_low]
  refine round_ac n k _ _ ?_
  simp
  apply hK; clear hK K
  obtain ⟨a1, a2, a3, a4, a5⟩ := rows3 H (.row [.int .i64 0] 0 0 false) (.row [.int .i64 n] 0 0 false) (.row [.int .i64 k] 0 0 false)
  simp only [List.append_assoc, List.cons_append, List.nil_append] at a1 a2 a3 a4 a5
  generalize H ++ [AObj.row [.int .i64 0] 0 0 false, .row [.int .i64 n] 0 0 false, .row [.int .i64 k] 0 0 false] = H1 at a1 a2 a3 a4 a5 ⊢
  generalize hp : H.length = p at a1 a2 a3 a4 ⊢
  refine L_block (L_range [5] rfl (okFn_low (by omega) (by omega)) ?_)
  generalize hL : (⟨13, _, _, _, _⟩ : LR) = L
  have hnt : L.nt = 13 := by rw [← hL]
  have hps : L.ps = #[9] := by rw [← hL]
  have hass : L.assign = .skip := by rw [← hL]
  have he : L.e = [(5, .ptr p 0 0)] := by rw [← hL]; rfl
  have hbody := congrArg LR.body hL.symm
  clear hL
  obtain ⟨T, hTT⟩ : ∃ T, T = (roundS n k).length := ⟨_, rfl⟩
  have hr0 : (H1 ++ [AObj.loop .ready .normal L])[H1.length]? = some (.loop .ready .normal L) := by simp
  have hlen : (H1 ++ [AObj.loop .ready .normal L]).length = p + 4 := by simp [a4]
  have hin : ∀ j, j < H1.length → (H1 ++ [AObj.loop .ready .normal L])[j]? = H1[j]? := fun j hj => List.getElem?_append_left hj
  refine round1_ac n k hk hn H1.length (p + 2) (p + 1) 0 0 (fun rest H' => p + 4 ≤ H'.length ∧ rest.length ≤ T ∧ (∃ s, H'[p]? = some (.row [.int .i64 ((T - rest.length : Nat) : Int)] 0 s false)) ∧ H'[H1.length]? = some (.loop .ready .normal L) ∧ Ext H H') (fun _ => False) _ _ (by rw [hin _ (by omega)]; exact a3) (by rw [hin _ (by omega)]; exact a2) (by simp) ?_ ?_ ?_ ?_
  · rw [hlen]
    refine ⟨fun rest H2 H3 hsame ⟨g0, g1, ⟨s, g2⟩, g3, g4⟩ => ?_, fun l rest H2 st ⟨g0, g1, ⟨s, g2⟩, g3, g4⟩ hrow => ?_⟩
    · have e2 : H3[p]? = _ := (hsame.2 p (by omega) (by omega)).trans g2
      have e3 : H3[H1.length]? = _ := (hsame.2 _ (by omega) (by omega)).trans g3
      have hl3 : H1.length < H3.length := (List.getElem?_eq_some_iff.1 e3).1
      exact ⟨by omega, g1, ⟨s, e2⟩, e3, below_ext (w := p) g4 (by omega) (by omega) (fun j hj => hsame.2 j (by omega) (by omega))⟩
    · have hwl := lt_of_row hrow
      have hg1 : rest.length + 1 ≤ T := by simpa using g1
      refine AYld_mk g3 (by rw [hps]; rfl) (by rw [hps, hnt]; simp) hass ?_
      rw [hnt, hps, he, hbody]
      have b2 : (H2.set H1.length (.loop .busy .normal L))[p]? = some (.row [.int .i64 ((T - (rest.length + 1) : Nat) : Int)] 0 s false) := by rw [set_ne (by omega)]; exact g2
      have e2 : ld (H2.set H1.length (.loop .busy .normal L)) p 0 0 = some (.int .i64 ((T - (rest.length + 1) : Nat) : Int)) := by rw [ld_row b2]; rfl
      have hst := store_row (P := Try.prog) (u := 3) (p := 0) sc3 (x := .int .i64 ((T - rest.length : Nat) : Int)) (y := .int .i64 ((T - (rest.length + 1) : Nat) : Int)) rfl b2 rfl
      have hadd : ((T - (rest.length + 1) : Nat) : Int) + 1 = ((T - rest.length : Nat) : Int) := by omega
      refine L_block ?_
      refine L_reg [] (fun K hK => ?_)
      simp [psEnv, e2, hadd, wrap_i64 (a := ((T - rest.length : Nat) : Int)) (by omega), hst]
      apply hK; clear hK K
      refine ⟨.busy, .normal, L, by rw [set_ne (by omega), List.getElem?_set_self (by omega)], true, rfl, ?_⟩
      simp only [if_true]
      refine ⟨⟨by simp; omega, by omega, ⟨0, ?_⟩, ?_, ?_⟩, ⟨by simp, fun j N0 r0 s0 h1 h2 => ?_⟩, st, ?_⟩
      · rw [set_ne (by omega), get_set b2]
      · rw [List.getElem?_set_self (by simp; omega)]
      · refine below_ext (w := p) g4 (by omega) (by simp; omega) fun j hj => ?_
        rw [set_ne (by omega), set_ne (by omega), set_ne (by omega)]
      · rw [set_ne (by omega), set_ne (by omega), set_ne (by omega)]; exact h2
      · rw [set_ne (by omega), set_ne (by omega), set_ne (by omega)]; exact hrow
  · refine ⟨by omega, by omega, ⟨0, ?_⟩, hr0, a5.trans (.push _ _)⟩
    rw [hin _ (by omega), a1, ← hTT, Nat.sub_self]; rfl
  · rintro H' ⟨g0, -, ⟨s, g2⟩, g3, g4⟩
    refine ⟨.ready, .normal, L, g3, by simp, ?_⟩
    have b2 : (H'.set H1.length (.loop .exhausted .normal L))[p]? = some (.row [.int .i64 (T : Int)] 0 s false) := by rw [set_ne (by omega)]; exact g2
    have e2 : ld (H'.set H1.length (.loop .exhausted .normal L)) p 0 0 = some (.int .i64 (T : Int)) := by rw [ld_row b2]; rfl
    show AWL _ _ _ _ _ _
    refine L_reg [4] (fun K hK => ?_)
    simp [e2]
    apply hK; clear hK K
    exact L_ret ⟨.inr rfl, _, rfl, by rw [hTT]; exact h _ (g4.set _ (by omega))⟩
  · intro H' h; exact h.elim
theorem many_q (n k : Nat) (hk : k ≤ n) (hn : n ≤ 10) (H : AH) (Q : AV → AH → Prop) (hT : (roundS n k).length ≤ 1000000) (h : Q (.int .i64 (roundS n k).length) H) : AC Try.prog 60 [.int .i64 n, .int .i64 k] H Q :=
  AC.quiet (belB_int _ _ _ _) (fun Q h => many_ac n k hk hn H Q hT h) Q h
end Go.Proofs.Ytmoifofihafgmaa

/- The place of a blend in its round, and the blend at a place. -/
namespace Go.Proofs.Ytmoifofihafgmaa
open Go Go.Proofs.Ytmoifofihafgmaa.AX

def idxS (b : List Int) : List (List Int) → Nat
  | [] => 0
  | l :: rest => if l = b then 0 else idxS b rest + 1
theorem idxS_le (b : List Int) : ∀ l : List (List Int), idxS b l ≤ l.length
  | [] => Nat.le_refl _
  | x :: l => by simp only [idxS]; split <;> have := idxS_le b l <;> simp <;> omega
set_option maxRecDepth 100000 in
theorem place_ac (n : Nat) (v : AV) (b : List Int) (hb : b.length ≤ n) (hn : n ≤ 10) (H : AH) (Q : AV → AH → Prop) (hv : Ls H v b) (hT : (roundS n b.length).length ≤ 1000000) (h : ∀ H', Ext H H' → Q (.int .i64 (idxS b (roundS n b.length))) H') : AC Try.prog 63 [.int .i64 n, v] H Q := by
  obtain ⟨r0, off0, ver0, sz0, full0, hv0, -⟩ := id hv
  refine L_body 18 Try.func63 rfl rfl ?_
  refine L_reg [0, 3] (fun K hK => ?_)
  simp [hv0, AV.isU, acells]
  apply hK; clear hK K
  have z0 : (H ++ [AObj.row [AV.slice r0 off0 b.length ver0 sz0 full0] 0 0 false])[H.length]? = some (.row [.slice r0 off0 b.length ver0 sz0 full0] 0 0 false) := by simp
  have zl : (H ++ [AObj.row [AV.slice r0 off0 b.length ver0 sz0 full0] 0 0 false]).length = H.length + 1 := by simp
  have zE : Ext H (H ++ [AObj.row [AV.slice r0 off0 b.length ver0 sz0 full0] 0 0 false]) := .push _ _
  generalize H ++ [AObj.row [AV.slice r0 off0 b.length ver0 sz0 full0] 0 0 false] = Ha at z0 zl zE ⊢
  generalize hp : H.length = p at z0 zl ⊢
  refine L_reg [0, 3, 5] (fun K hK => ?_)
  simp [alloc_z zt3, st_zero]
  apply hK; clear hK K
  have e0 : ld (Ha ++ [.row [.int .i64 0] 0 0 false]) p 0 0 = some (.slice r0 off0 b.length ver0 sz0 full0) := by
    rw [ld_row (c := [AV.slice r0 off0 b.length ver0 sz0 full0]) (v := 0) (s := 0) (ro := false) (by rw [List.getElem?_append_left (by omega)]; exact z0)]; rfl
  refine L_reg [3, 5, 10] (fun K hK => ?_)
  simp [okFn_low, e0]
  refine round_ac n b.length _ _ ?_
  simp
  apply hK; clear hK K
  obtain ⟨a1, a2, a3, a4, a5⟩ := rows3 Ha (.row [.int .i64 0] 0 0 false) (.row [.int .i64 n] 0 0 false) (.row [.int .i64 b.length] 0 0 false)
  simp only [List.append_assoc, List.cons_append, List.nil_append] at a1 a2 a3 a4 a5
  have a0 := a5.row z0
  have a5 := zE.trans a5
  generalize Ha ++ [AObj.row [.int .i64 0] 0 0 false, .row [.int .i64 n] 0 0 false, .row [.int .i64 b.length] 0 0 false] = H1 at a0 a1 a2 a3 a4 a5 ⊢
  rw [zl] at a1 a2 a3 a4
  simp only [zl]
  refine L_block (L_range [3, 5] rfl (okFn_low (by omega) (by omega)) ?_)
  generalize hL : (⟨18, _, _, _, _⟩ : LR) = L
  have hnt : L.nt = 18 := by rw [← hL]
  have hps : L.ps = #[11] := by rw [← hL]
  have hass := congrArg LR.assign hL.symm
  have he : L.e = [(3, .ptr p 0 0), (5, .ptr (p + 1) 0 0)] := by rw [← hL]; rfl
  have hbody := congrArg LR.body hL.symm
  clear hL
  generalize hF : roundS n b.length = F at h hT
  obtain ⟨T, hTT⟩ : ∃ T, T = F.length := ⟨_, rfl⟩
  have hr0 : (H1 ++ [AObj.loop .ready .normal L])[H1.length]? = some (.loop .ready .normal L) := by simp
  have hlen : (H1 ++ [AObj.loop .ready .normal L]).length = p + 5 := by simp [a4]
  have hin : ∀ j, j < H1.length → (H1 ++ [AObj.loop .ready .normal L])[j]? = H1[j]? := fun j hj => List.getElem?_append_left hj
  refine round1_ac n b.length hb hn H1.length (p + 3) (p + 2) 0 0 (fun rest H' => (∀ x ∈ rest, x.length = b.length) ∧ p + 5 ≤ H'.length ∧ (∃ m s, m + rest.length = T ∧ m + idxS b rest = idxS b F ∧ H'[p + 1]? = some (.row [.int .i64 ((m : Nat) : Int)] 0 s false)) ∧
      H'[p]? = some (.row [.slice r0 off0 b.length ver0 sz0 full0] 0 0 false) ∧ H'[H1.length]? = some (.loop .ready .normal L) ∧ Ext H H')
    (fun H' => p + 5 ≤ H'.length ∧ (∃ s, H'[p + 1]? = some (.row [.int .i64 ((idxS b F : Nat) : Int)] 0 s false)) ∧ H'[H1.length]? = some (.loop .done (.exit 0) L) ∧ Ext H H') _ _ (by rw [hin _ (by omega)]; exact a3) (by rw [hin _ (by omega)]; exact a2) (by simp) ?_ ?_ ?_ ?_
  · rw [hlen]
    refine ⟨fun rest H2 H3 hsame ⟨gm, g0, ⟨m, s, g1, g1', g2⟩, g3, g4, g5⟩ => ?_, fun l rest H2 st ⟨gm, g0, ⟨m, s, g1, g1', g2⟩, g3, g4, g5⟩ hrow => ?_⟩
    · have e2 : H3[p + 1]? = _ := (hsame.2 _ (by omega) (by omega)).trans g2
      have e3 : H3[p]? = _ := (hsame.2 _ (by omega) (by omega)).trans g3
      have e4 : H3[H1.length]? = _ := (hsame.2 _ (by omega) (by omega)).trans g4
      have hl3 : H1.length < H3.length := (List.getElem?_eq_some_iff.1 e4).1
      exact ⟨gm, by omega, ⟨m, s, g1, g1', e2⟩, e3, e4, below_ext (w := p) g5 (by omega) (by omega) (fun j hj => hsame.2 j (by omega) (by omega))⟩
    · have hwl := lt_of_row hrow
      simp only [List.length_cons] at g1
      refine AYld_mkA g4 (by rw [hps]; rfl) (by rw [hps, hnt]; simp) ?_
      rw [hnt, hps, he, hass]
      refine L_reg [3, 5, 6] (fun K hK => ?_)
      simp [psEnv]
      apply hK; clear hK K
      refine ⟨rfl, .normal, L, g4, ?_⟩
      rw [hbody]
      generalize hH2b : H2.set H1.length (.loop .busy .normal L) = H2b
      have bp : H2b[p]? = some (.row [.slice r0 off0 b.length ver0 sz0 full0] 0 0 false) := by rw [← hH2b, set_ne (by omega)]; exact g3
      have b2 : H2b[p + 1]? = some (.row [.int .i64 ((m : Nat) : Int)] 0 s false) := by rw [← hH2b, set_ne (by omega)]; exact g2
      have bw : H2b[p + 5]? = some (.row (l.map (.int .i64)) 0 st false) := by rw [← hH2b, set_ne (by omega)]; exact hrow
      have br : H2b[H1.length]? = some (.loop .busy .normal L) := by rw [← hH2b, List.getElem?_set_self (by omega)]
      have bE : Ext H H2b := by rw [← hH2b]; exact g5.set _ (by omega)
      have bl : H2b.length = H2.length := by rw [← hH2b]; simp
      have ep : ld H2b p 0 0 = some (.slice r0 off0 b.length ver0 sz0 full0) := by rw [ld_row bp]; rfl
      have e2 : ld H2b (p + 1) 0 0 = some (.int .i64 ((m : Nat) : Int)) := by rw [ld_row b2]; rfl
      have hlb : l.length = b.length := gm l (by simp)
      have hLw : Ls H2b (.slice (some (p + 5)) 0 b.length 0 1 false) l := by
        have := Ls.row bw false
        rwa [hlb] at this
      refine L_block ?_
      refine L_reg [5, 14] (fun K hK => ?_)
      simp [okFn_low, ep]
      refine Equal_ac _ _ l b _ _ (by omega) hLw (hv0 ▸ hv.ext bE) ?_
      simp
      apply hK; clear hK K
      by_cases hlb2 : l = b
      · simp only [idxS, if_pos hlb2] at g1'
        refine L_true (by simp [hlb2]) (L_exit ?_)
        refine ⟨.busy, .normal, L, br, false, rfl, ?_⟩
        refine ⟨by simp; omega, ⟨s, ?_⟩, by rw [List.getElem?_set_self (by omega)]; rfl, bE.set _ (by omega)⟩
        rw [set_ne (by omega), ← g1']; exact b2
      · simp only [idxS, if_neg hlb2] at g1'
        refine L_false (by simp [hlb2]) ?_
        have hst := store_row (P := Try.prog) (u := 3) (p := 0) sc3 (x := .int .i64 ((m + 1 : Nat) : Int)) (y := .int .i64 ((m : Nat) : Int)) rfl b2 rfl
        rw [Int.natCast_add, Int.natCast_one] at hst
        refine L_reg [] (fun K hK => ?_)
        simp [e2, wrap_i64 (a := (m : Int) + 1) (by omega), hst]
        apply hK; clear hK K
        refine ⟨.busy, .normal, L, by rw [set_ne (by omega)]; exact br, true, rfl, ?_⟩
        simp only [if_true]
        refine ⟨⟨fun x hx => gm x (by simp [hx]), by simp; omega, ⟨m + 1, 0, by omega, by omega, ?_⟩, ?_, ?_, ?_⟩, ⟨by simp; omega, fun j N0 r0 s0 h1 h2 => ?_⟩, st, ?_⟩
        · rw [set_ne (by omega), get_set b2]; rfl
        · rw [set_ne (by omega), set_ne (by omega)]; exact bp
        · rw [List.getElem?_set_self (by simp; omega)]
        · exact (bE.set _ (by omega)).set _ (by omega)
        · rw [set_ne (by omega), set_ne (by omega), ← hH2b, set_ne (by omega)]; exact h2
        · rw [set_ne (by omega), set_ne (by omega)]; exact bw
  · refine ⟨fun x hx => roundS_len n b.length x hx, by omega, ⟨0, 0, by rw [hF]; omega, by rw [hF]; omega, ?_⟩, ?_, hr0, a5.trans (.push _ _)⟩
    · rw [hin _ (by omega)]; exact a1
    · rw [hin _ (by omega)]; exact a0
  · rintro H' ⟨-, g0, ⟨m, s, g1, g1', g2⟩, g3, g4, g5⟩
    simp only [idxS, Nat.add_zero] at g1'
    refine ⟨.ready, .normal, L, g4, by simp, ?_⟩
    have b2 : (H'.set H1.length (.loop .exhausted .normal L))[p + 1]? = some (.row [.int .i64 ((idxS b F : Nat) : Int)] 0 s false) := by rw [set_ne (by omega), ← g1']; exact g2
    have e2 : ld (H'.set H1.length (.loop .exhausted .normal L)) (p + 1) 0 0 = some (.int .i64 ((idxS b F : Nat) : Int)) := by rw [ld_row b2]; rfl
    show AWL _ _ _ _ _ _
    refine L_reg [4] (fun K hK => ?_)
    simp [e2]
    apply hK; clear hK K
    exact L_ret ⟨.inr rfl, _, rfl, h _ (g5.set _ (by omega))⟩
  · rintro H' ⟨g0, ⟨s, g2⟩, g4, g5⟩
    refine ⟨.done, .exit 0, L, g4, by simp, ?_⟩
    have b2 : (H'.set H1.length (.loop .exhausted (.exit 0) L))[p + 1]? = some (.row [.int .i64 ((idxS b F : Nat) : Int)] 0 s false) := by rw [set_ne (by omega)]; exact g2
    have e2 : ld (H'.set H1.length (.loop .exhausted (.exit 0) L)) (p + 1) 0 0 = some (.int .i64 ((idxS b F : Nat) : Int)) := by rw [ld_row b2]; rfl
    show AWL _ _ _ _ _ _
    refine L_reg [4] (fun K hK => ?_)
    simp [e2]
    apply hK; clear hK K
    exact L_ret ⟨.inr rfl, _, rfl, h _ (g5.set _ (by omega))⟩
theorem place_q (n : Nat) (v : AV) (b : List Int) (hb : b.length ≤ n) (hn : n ≤ 10) (H : AH) (hv : Ls H v b) (hT : (roundS n b.length).length ≤ 1000000) (Q : AV → AH → Prop) (h : Q (.int .i64 (idxS b (roundS n b.length))) H) : AC Try.prog 63 [.int .i64 n, v] H Q :=
  AC.quiet (belB_int _ _ _ _) (fun Q h => place_ac n v b hb hn H Q hv hT h) Q h
end Go.Proofs.Ytmoifofihafgmaa

/- The blend at a place of its round. -/
namespace Go.Proofs.Ytmoifofihafgmaa
open Go Go.Proofs.Ytmoifofihafgmaa.AX
theorem st22_last (H : AH) (v : AV) (hv : v.one = true) : storeV Try.prog 22 (H ++ [AObj.row [.slice none 0 0 0 1 false] 0 0 false]) (.ptr H.length 0 0) v = some (none, H ++ [.row [v] 0 0 false]) := store_last sc22 (y := .slice none 0 0 0 1 false) hv rfl
theorem ownF_keep {N : Nat} {H H' : AH} {v : AV} {l : List AV} (h : OwnF N H v l) (hE : ∀ (j : Nat) (o : AObj), N ≤ j → H[j]? = some o → H'[j]? = some o) : OwnF N H' v l := by
  rcases h with h | ⟨r, ver, stale, h1, h2, h3⟩
  · exact .inl h
  · exact .inr ⟨r, ver, stale, h1, h2, hE r _ h1 h3⟩
theorem ownF_less {N M : Nat} {H : AH} {v : AV} {l : List AV} (h : OwnF N H v l) (hM : M ≤ N) : OwnF M H v l := by
  rcases h with h | ⟨r, ver, stale, h1, h2, h3⟩
  · exact .inl h
  · exact .inr ⟨r, ver, stale, by omega, h2, h3⟩
theorem ownF_one {N : Nat} {H : AH} {v : AV} {l : List AV} (h : OwnF N H v l) : v.one = true := by
  rcases h with ⟨-, rfl⟩ | ⟨r, ver, stale, -, rfl, -⟩ <;> rfl

theorem alloc22_2 (H : AH) (a : AObj) : (tiOf Try.prog 22).map (fun I => ((some (AV.ptr (H.length + 1) 0 0) : Option AV), H ++ [a, AObj.row I.zero 0 0 false])) = some (some (.ptr (H.length + 1) 0 0), H ++ [a, .row [.slice none 0 0 0 1 false] 0 0 false]) := by
  have := alloc_z (H := H ++ [a]) zt22
  simpa using this

set_option maxRecDepth 100000 in
theorem at_ac (n k i : Nat) (hk : k ≤ n) (hn : n ≤ 10) (H : AH) (Q : AV → AH → Prop) (F : List (List Int)) (hF : roundS n k = F) (hi : i < F.length) (hi2 : i ≤ 1000000)
    (h : ∀ v' H', OwnF H.length H' v' (F[i].map (.int .i64)) → Ext H H' → Q v' H') : AC Try.prog 65 [.int .i64 n, .int .i64 k, .int .i64 i] H Q := by
  refine L_body 18 Try.func65 rfl rfl ?_
  refine L_reg [0, 1, 5, 6] (fun K hK => ?_)
  simp [AV.isU, acells, alloc22_2]
  apply hK; clear hK K
  have z0 : (H ++ [AObj.row [.int .i64 (i : Int)] 0 0 false, .row [.slice none 0 0 0 1 false] 0 0 false])[H.length]? = some (.row [.int .i64 (i : Int)] 0 0 false) := by simp
  have z1 : (H ++ [AObj.row [.int .i64 (i : Int)] 0 0 false, .row [.slice none 0 0 0 1 false] 0 0 false])[H.length + 1]? = some (.row [.slice none 0 0 0 1 false] 0 0 false) := by simp
  have zl : (H ++ [AObj.row [.int .i64 (i : Int)] 0 0 false, .row [.slice none 0 0 0 1 false] 0 0 false]).length = H.length + 2 := by simp
  have zE : Ext H (H ++ [AObj.row [.int .i64 (i : Int)] 0 0 false, .row [.slice none 0 0 0 1 false] 0 0 false]) := .push _ _
  generalize H ++ [AObj.row [.int .i64 (i : Int)] 0 0 false, .row [.slice none 0 0 0 1 false] 0 0 false] = Ha at z0 z1 zl zE ⊢
  generalize hp : H.length = p at z0 z1 zl h ⊢
  refine L_reg [5, 6, 10] (fun K hK => ?_)
  simp [okFn_low]
  refine round_ac n k _ _ ?_
  simp
  apply hK; clear hK K
  have a0 := Ext.row (.push Ha [AObj.row [.int .i64 (n : Int)] 0 0 false, .row [.int .i64 (k : Int)] 0 0 false]) z0
  have a1 := Ext.row (.push Ha [AObj.row [.int .i64 (n : Int)] 0 0 false, .row [.int .i64 (k : Int)] 0 0 false]) z1
  have a2 : (Ha ++ [AObj.row [.int .i64 (n : Int)] 0 0 false, .row [.int .i64 (k : Int)] 0 0 false])[p + 2]? = some (.row [.int .i64 (n : Int)] 0 0 false) := by rw [← zl]; simp
  have a3 : (Ha ++ [AObj.row [.int .i64 (n : Int)] 0 0 false, .row [.int .i64 (k : Int)] 0 0 false])[p + 3]? = some (.row [.int .i64 (k : Int)] 0 0 false) := by rw [show p + 3 = Ha.length + 1 by omega]; simp
  have a4 : (Ha ++ [AObj.row [.int .i64 (n : Int)] 0 0 false, .row [.int .i64 (k : Int)] 0 0 false]).length = p + 4 := by simp [zl]
  have a5 := zE.trans (.push Ha [AObj.row [.int .i64 (n : Int)] 0 0 false, .row [.int .i64 (k : Int)] 0 0 false])
  generalize Ha ++ [AObj.row [.int .i64 (n : Int)] 0 0 false, .row [.int .i64 (k : Int)] 0 0 false] = H1 at a0 a1 a2 a3 a4 a5 ⊢
  simp only [zl]
  refine L_block (L_range [5, 6] rfl (okFn_low (by omega) (by omega)) ?_)
  generalize hL : (⟨18, _, _, _, _⟩ : LR) = L
  have hnt : L.nt = 18 := by rw [← hL]
  have hps : L.ps = #[11] := by rw [← hL]
  have hass := congrArg LR.assign hL.symm
  have he : L.e = [(5, .ptr p 0 0), (6, .ptr (p + 1) 0 0)] := by rw [← hL]; rfl
  have hbody := congrArg LR.body hL.symm
  clear hL
  have hFl := roundS_len n k
  rw [hF] at hFl
  have hr0 : (H1 ++ [AObj.loop .ready .normal L])[H1.length]? = some (.loop .ready .normal L) := by simp
  have hlen : (H1 ++ [AObj.loop .ready .normal L]).length = p + 5 := by simp [a4]
  have hin : ∀ j, j < H1.length → (H1 ++ [AObj.loop .ready .normal L])[j]? = H1[j]? := fun j hj => List.getElem?_append_left hj
  refine round1_ac n k hk hn H1.length (p + 3) (p + 2) 0 0 (fun rest H' => (∀ x ∈ rest, x.length = k) ∧ p + 5 ≤ H'.length ∧ (∃ m s, rest[m]? = F[i]? ∧ m ≤ i ∧ H'[p]? = some (.row [.int .i64 ((m : Nat) : Int)] 0 s false)) ∧
      (∃ s, H'[p + 1]? = some (.row [.slice none 0 0 0 1 false] 0 s false)) ∧ H'[H1.length]? = some (.loop .ready .normal L) ∧ Ext H H')
    (fun H' => p + 5 ≤ H'.length ∧ (∃ s v', H'[p + 1]? = some (.row [v'] 0 s false) ∧ v'.one = true ∧ OwnF (p + 5) H' v' (F[i].map (.int .i64))) ∧ H'[H1.length]? = some (.loop .done .ret L) ∧ Ext H H') _ _ (by rw [hin _ (by omega)]; exact a3) (by rw [hin _ (by omega)]; exact a2) (by simp) ?_ ?_ ?_ ?_
  · rw [hlen]
    refine ⟨fun rest H2 H3 hsame ⟨gm, g0, ⟨m, s, g1, g1', g2⟩, ⟨s3, g3⟩, g4, g5⟩ => ?_, fun l rest H2 st ⟨gm, g0, ⟨m, s, g1, g1', g2⟩, ⟨s3, g3⟩, g4, g5⟩ hrow => ?_⟩
    · have e2 : H3[p]? = _ := (hsame.2 _ (by omega) (by omega)).trans g2
      have e3 : H3[p + 1]? = _ := (hsame.2 _ (by omega) (by omega)).trans g3
      have e4 : H3[H1.length]? = _ := (hsame.2 _ (by omega) (by omega)).trans g4
      have hl3 : H1.length < H3.length := (List.getElem?_eq_some_iff.1 e4).1
      exact ⟨gm, by omega, ⟨m, s, g1, g1', e2⟩, ⟨s3, e3⟩, e4, below_ext (w := p) g5 (by omega) (by omega) (fun j hj => hsame.2 j (by omega) (by omega))⟩
    · have hwl := lt_of_row hrow
      refine AYld_mkA g4 (by rw [hps]; rfl) (by rw [hps, hnt]; simp) ?_
      rw [hnt, hps, he, hass]
      refine L_reg [5, 6, 7] (fun K hK => ?_)
      simp [psEnv]
      apply hK; clear hK K
      refine ⟨rfl, .normal, L, g4, ?_⟩
      rw [hbody]
      generalize hH2b : H2.set H1.length (.loop .busy .normal L) = H2b
      have b2 : H2b[p]? = some (.row [.int .i64 ((m : Nat) : Int)] 0 s false) := by rw [← hH2b, set_ne (by omega)]; exact g2
      have b3 : H2b[p + 1]? = some (.row [.slice none 0 0 0 1 false] 0 s3 false) := by rw [← hH2b, set_ne (by omega)]; exact g3
      have bw : H2b[p + 5]? = some (.row (l.map (.int .i64)) 0 st false) := by rw [← hH2b, set_ne (by omega)]; exact hrow
      have br : H2b[H1.length]? = some (.loop .busy .normal L) := by rw [← hH2b, List.getElem?_set_self (by omega)]
      have bE : Ext H H2b := by rw [← hH2b]; exact g5.set _ (by omega)
      have bl : H2b.length = H2.length := by rw [← hH2b]; simp
      have e2 : ld H2b p 0 0 = some (.int .i64 ((m : Nat) : Int)) := by rw [ld_row b2]; rfl
      have hlb : l.length = k := gm l (by simp)
      have hLw : Ls H2b (.slice (some (p + 5)) 0 k 0 1 false) l := by
        have := Ls.row bw false
        rwa [hlb] at this
      refine L_block ?_
      refine L_reg [5, 6, 7, 13] (fun K hK => ?_)
      simp [e2]
      apply hK; clear hK K
      refine L_dec ((m : Int) = 0) rfl (fun hm => ?_) (fun hm => ?_)
      · obtain rfl : m = 0 := by omega
        have hFi : l = F[i] := by rw [List.getElem?_eq_getElem hi] at g1; simpa using g1
        refine L_reg [6] (fun K hK => ?_)
        simp [okFn_low]
        refine kept_ac _ l H2b _ (by omega) hLw (fun v' H3 hv' hE3 => ?_)
        have b3' := hE3.row b3
        have hone := ownF_one hv'
        have hst := store_row (P := Try.prog) (u := 22) (p := 0) sc22 (x := v') (y := .slice none 0 0 0 1 false) hone b3' rfl
        simp [hst]
        apply hK; clear hK K
        have hl3 := hE3.1
        have br' := hE3.row br
        refine L_ret ⟨.busy, .normal, L, by rw [set_ne (by omega)]; exact br', false, rfl, ?_⟩
        refine ⟨by simp; omega, ⟨0, v', ?_, hone, ?_⟩, ?_, ?_⟩
        · rw [set_ne (by omega), get_set b3']
        · rw [← hFi]
          exact ownF_keep (ownF_less hv' (by omega)) fun j o hj ho => by rw [set_ne (by omega), set_ne (by omega)]; exact ho
        · rw [List.getElem?_set_self (by simp; omega)]; rfl
        · exact ((bE.trans hE3).set _ (by omega)).set _ (by omega)
      · obtain ⟨m, rfl⟩ : ∃ m', m = m' + 1 := ⟨m - 1, by omega⟩
        have hst := store_row (P := Try.prog) (u := 3) (p := 0) sc3 (x := .int .i64 ((m : Nat) : Int)) (y := .int .i64 ((m + 1 : Nat) : Int)) rfl b2 rfl
        refine L_reg [] (fun K hK => ?_)
        simp [e2, wrap_i64 (a := (m : Int)) (by omega), hst]
        apply hK; clear hK K
        refine ⟨.busy, .normal, L, by rw [set_ne (by omega)]; exact br, true, rfl, ?_⟩
        simp only [if_true]
        refine ⟨⟨fun x hx => gm x (by simp [hx]), by simp; omega, ⟨m, 0, by simpa using g1, by omega, ?_⟩, ⟨s3, ?_⟩, ?_, ?_⟩, ⟨by simp; omega, fun j N0 r0 s0 h1 h2 => ?_⟩, st, ?_⟩
        · rw [set_ne (by omega), get_set b2]
        · rw [set_ne (by omega), set_ne (by omega)]; exact b3
        · rw [List.getElem?_set_self (by simp; omega)]
        · exact (bE.set _ (by omega)).set _ (by omega)
        · rw [set_ne (by omega), set_ne (by omega), ← hH2b, set_ne (by omega)]; exact h2
        · rw [set_ne (by omega), set_ne (by omega)]; exact bw
  · refine ⟨fun x hx => hFl x (by rw [← hF]; exact hx), by omega, ⟨i, 0, by rw [hF], Nat.le_refl _, ?_⟩, ⟨0, ?_⟩, hr0, a5.trans (.push _ _)⟩
    · rw [hin _ (by omega)]; exact a0
    · rw [hin _ (by omega)]; exact a1
  · rintro H' ⟨-, g0, ⟨m, s, g1, g1', g2⟩, g3, g4, g5⟩
    rw [List.getElem?_eq_getElem hi] at g1
    simp at g1
  · rintro H' ⟨g0, ⟨s, v', g2, hone, g3⟩, g4, g5⟩
    refine ⟨.done, .ret, L, g4, by simp, ?_⟩
    have b2 : (H'.set H1.length (.loop .exhausted .ret L))[p + 1]? = some (.row [v'] 0 s false) := by rw [set_ne (by omega)]; exact g2
    have e2 : ld (H'.set H1.length (.loop .exhausted .ret L)) (p + 1) 0 0 = some v' := by
      rw [ld_row b2]
      cases v' <;> first | rfl | (simp [AV.one] at hone)
    refine ⟨.inr rfl, v', ?_, h v' _ ?_ (g5.set _ (by omega))⟩
    · have h1 : aRes1 Try.prog (ekeep [5, 6] [(5, AV.ptr p 0 0), (6, .ptr (p + 1) 0 0), (10, AV.func (Fn.func 99) [] [AV.ptr (p + 2 + 1) 0 0, AV.ptr (p + 2) 0 0])]) (H'.set H1.length (.loop .exhausted .ret L)) (.cell 6 22) = some v' := by
        show loadV Try.prog 22 _ (.ptr (p + 1) 0 0) = _
        rw [ld22]; exact e2
      show (aResList Try.prog _ _ [.cell 6 22]).map _ = some v'
      simp only [aResList]
      rw [h1]; rfl
    · exact ownF_less (ownF_keep g3 fun j o hj ho => by rw [set_ne (by omega)]; exact ho) (by omega)
end Go.Proofs.Ytmoifofihafgmaa

/- What a blend lacks. -/
namespace Go.Proofs.Ytmoifofihafgmaa
open Go Go.Proofs.Ytmoifofihafgmaa.AX

def ixS (p : Int → Bool) : List Int → Nat → Int
  | [], _ => -1
  | y :: l, i => if p y then (i : Int) else ixS p l (i + 1)
theorem ixS_drop (p : Int → Bool) {l : List Int} {i : Nat} (hi : i < l.length) : ixS p (l.drop i) i = if p l[i] then (i : Int) else ixS p (l.drop (i + 1)) (i + 1) := by
  rw [List.drop_eq_getElem_cons hi]; rfl
theorem ixS_ge (p : Int → Bool) : ∀ (l : List Int) (i : Nat), (0 ≤ ixS p l i) ↔ ∃ x ∈ l, p x = true
  | [], i => by simp [ixS]
  | y :: l, i => by
    simp only [ixS]
    split
    · rename_i h; exact ⟨fun _ => ⟨y, by simp, h⟩, fun _ => by omega⟩
    · rename_i h
      rw [ixS_ge p l (i + 1)]
      constructor
      · rintro ⟨x, hx, hp⟩; exact ⟨x, by simp [hx], hp⟩
      · rintro ⟨x, hx, hp⟩
        rcases List.mem_cons.1 hx with rfl | hx
        · exact absurd hp h
        · exact ⟨x, hx, hp⟩
theorem Index_ac (v : AV) (l : List Int) (x : Int) (H : AH) (Q : AV → AH → Prop) (hl : l.length ≤ 1000000) (hv : Ls H v l) (h : Q (.int .i64 (ixS (fun y => decide (x = y)) l 0)) H) : AC Try.prog 89 [v, .int .i64 x] H Q := by
  obtain ⟨r, off, ver, sz, full, rfl, hld⟩ := hv
  refine L_body 19 Try.func89 rfl rfl ?_
  refine L_reg [0, 1] (fun K hK => ?_)
  simp
  apply hK; clear hK K
  refine L_reg [0, 1, 7, 8] (fun K hK => ?_)
  simp
  apply hK; clear hK K
  refine L_block (L_loopV [8] (fun k vs H' => ∃ i : Nat, k = l.length - i ∧ i ≤ l.length ∧ ixS (fun y => decide (x = y)) l 0 = ixS (fun y => decide (x = y)) (l.drop i) i ∧ vs = [.int .i64 i] ∧ H = H') _ [.int .i64 (0 : Nat)] rfl ⟨0, rfl, by omega, rfl, rfl, rfl⟩ ?_)
  rintro k _ _ ⟨i, rfl, hi, hx, rfl, rfl⟩
  refine L_reg [0, 1, 7, 8, 9] (fun K hK => ?_)
  simp
  apply hK; clear hK K
  refine L_dec (i < l.length) (by simp) (fun hlt => ?_) (fun hge => L_exit ?_)
  · obtain ⟨r', rfl, rfl, hrd⟩ := hld i hlt
    rw [ixS_drop _ hlt] at hx
    refine L_block ?_
    refine L_reg [0, 1, 5, 7, 8] (fun K hK => ?_)
    simp
    apply hK; clear hK K
    refine L_reg [0, 1, 5, 7, 8, 16] (fun K hK => ?_)
    simp [hlt, hrd]
    apply hK; clear hK K
    refine L_dec (x = l[i]) rfl (fun he => ?_) (fun he => ?_)
    · rw [if_pos (by simpa using he)] at hx
      refine L_reg [4] (fun K hK => ?_)
      simp
      apply hK; clear hK K
      exact L_ret ⟨.inr rfl, _, rfl, by rw [hx] at h; exact h⟩
    · rw [if_neg (by simpa using he)] at hx
      refine L_reg [0, 1, 7, 8] (fun K hK => ?_)
      simp [wrap_i64 (a := (i : Int) + 1) (by omega)]
      apply hK; clear hK K
      exact ⟨l.length - (i + 1), [.int .i64 (i + 1 : Nat)], by omega, by simp, i + 1, rfl, by omega, hx, rfl, rfl⟩
  · have : i = l.length := by omega
    subst this
    rw [List.drop_length] at hx
    refine L_reg [4] (fun K hK => ?_)
    simp
    apply hK; clear hK K
    exact L_ret ⟨.inr rfl, _, rfl, by rw [hx] at h; exact h⟩
theorem Contains_ac (v : AV) (l : List Int) (x : Int) (H : AH) (Q : AV → AH → Prop) (hl : l.length ≤ 1000000) (hv : Ls H v l) (h : Q (.bool (decide (x ∈ l))) H) : AC Try.prog 46 [v, .int .i64 x] H Q := by
  refine L_body 9 Try.func46 rfl rfl ?_
  refine L_reg [0, 1] (fun K hK => ?_)
  simp
  apply hK; clear hK K
  refine L_reg [4] (fun K hK => ?_)
  simp [okFn_low]
  refine Index_ac v l x _ _ hl hv ?_
  simp
  apply hK; clear hK K
  have he : decide (0 ≤ ixS (fun y => decide (x = y)) l 0) = decide (x ∈ l) := by
    rw [Bool.eq_iff_iff, decide_eq_true_iff, decide_eq_true_iff, ixS_ge]
    simp
  exact L_ret ⟨.inr rfl, _, rfl, by rw [he]; exact h⟩
theorem lack1_ac (x : Int) (q : Nat) (s : Nat) (ov : AV) (o : List Int) (H : AH) (Q : AV → AH → Prop) (ho : o.length ≤ 1000000) (hq : H[q]? = some (.row [ov] 0 s false)) (hone : ov.one = true) (hv : Ls H ov o) (h : Q (.bool (decide (x ∈ o))) H) : AC Try.prog 95 [.int .i64 x, .ptr q 0 0] H Q := by
  have e : ld H q 0 0 = some ov := by
    rw [ld_row hq]
    cases ov <;> first | rfl | (simp [AV.one] at hone)
  refine L_body 7 Try.func95 rfl rfl ?_
  refine L_reg [0, 1] (fun K hK => ?_)
  simp
  apply hK; clear hK K
  refine L_reg [3] (fun K hK => ?_)
  simp [okFn_low, e]
  refine Contains_ac ov o x _ _ ho hv ?_
  simp
  apply hK; clear hK K
  exact L_ret ⟨.inr rfl, _, rfl, h⟩

set_option maxRecDepth 100000 in
theorem IndexFunc_ac (v : AV) (l : List Int) (q s : Nat) (ov : AV) (o : List Int) (H : AH) (Q : AV → AH → Prop) (hl : l.length ≤ 1000000) (hv : Ls H v l) (ho : o.length ≤ 1000000) (hq : H[q]? = some (.row [ov] 0 s false)) (hone : ov.one = true) (hov : Ls H ov o)
    (h : Q (.int .i64 (ixS (fun y => decide (y ∈ o)) l 0)) H) : AC Try.prog 112 [v, .func (.func 95) [] [.ptr q 0 0]] H Q := by
  obtain ⟨r, off, ver, sz, full, rfl, hld⟩ := hv
  refine L_body 19 Try.func112 rfl rfl ?_
  refine L_reg [0, 1] (fun K hK => ?_)
  simp
  apply hK; clear hK K
  refine L_reg [0, 1, 7, 8] (fun K hK => ?_)
  simp
  apply hK; clear hK K
  refine L_block (L_loopV [8] (fun k vs H' => ∃ i : Nat, k = l.length - i ∧ i ≤ l.length ∧ ixS (fun y => decide (y ∈ o)) l 0 = ixS (fun y => decide (y ∈ o)) (l.drop i) i ∧ vs = [.int .i64 i] ∧ H = H') _ [.int .i64 (0 : Nat)] rfl ⟨0, rfl, by omega, rfl, rfl, rfl⟩ ?_)
  rintro k _ _ ⟨i, rfl, hi, hx, rfl, rfl⟩
  refine L_reg [0, 1, 7, 8, 9] (fun K hK => ?_)
  simp
  apply hK; clear hK K
  refine L_dec (i < l.length) (by simp) (fun hlt => ?_) (fun hge => L_exit ?_)
  · obtain ⟨r', rfl, rfl, hrd⟩ := hld i hlt
    rw [ixS_drop _ hlt] at hx
    refine L_block ?_
    refine L_reg [0, 1, 5, 7, 8] (fun K hK => ?_)
    simp
    apply hK; clear hK K
    refine L_reg [0, 1, 5, 7, 8, 16] (fun K hK => ?_)
    simp [okFn_low, hlt, hrd]
    refine lack1_ac _ q s ov o _ _ ho hq hone hov ?_
    simp
    apply hK; clear hK K
    refine L_split rfl (fun ht => ?_) (fun hf => ?_)
    · rw [if_pos ht] at hx
      refine L_reg [4] (fun K hK => ?_)
      simp
      apply hK; clear hK K
      exact L_ret ⟨.inr rfl, _, rfl, by rw [hx] at h; exact h⟩
    · rw [if_neg (by rw [hf]; simp)] at hx
      refine L_reg [0, 1, 7, 8] (fun K hK => ?_)
      simp [wrap_i64 (a := (i : Int) + 1) (by omega)]
      apply hK; clear hK K
      exact ⟨l.length - (i + 1), [.int .i64 (i + 1 : Nat)], by omega, by simp, i + 1, rfl, by omega, hx, rfl, rfl⟩
  · have : i = l.length := by omega
    subst this
    rw [List.drop_length] at hx
    refine L_reg [4] (fun K hK => ?_)
    simp
    apply hK; clear hK K
    exact L_ret ⟨.inr rfl, _, rfl, by rw [hx] at h; exact h⟩
end Go.Proofs.Ytmoifofihafgmaa

/- What is lacking: struck from a row of the call's own. -/
namespace Go.Proofs.Ytmoifofihafgmaa
open Go Go.Proofs.Ytmoifofihafgmaa.AX

theorem clear_tail {H : AH} {t : TypeId} {z : AV} (hz : elZ Try.prog t = some z) {r ver stale i : Nat} {c : List AV} (hr : H[r]? = some (.row c ver stale false)) (hone : ∀ x ∈ c, x.one = true) (hz1 : z.one = true) (hi : i < c.length) (f : Bool) :
    aClear Try.prog H t (.slice (some r) i (c.length - i) ver 1 f) = some (H.set r (.row (c.take i ++ List.replicate (c.length - i) z) ver (min stale i) false)) := by
  unfold elZ at hz
  split at hz
  case h_2 => cases hz
  rename_i e he
  split at hz
  case h_2 => cases hz
  rename_i I hI
  split at hz
  case isFalse => cases hz
  rename_i hc
  split at hz
  case h_2 => cases hz
  rename_i z' hz'
  obtain rfl := Option.some.inj hz
  obtain ⟨n, hn⟩ : ∃ n, c.length - i = n + 1 := ⟨c.length - i - 1, by omega⟩
  have hdl : (c.drop i).length = n + 1 := by simp [hn]
  have hk : (takeKnown (n + 1) (c.drop i)).isSome = true := by
    have := takeKnown_row (l := c.drop i) (fun x hx => one_known (hone x (List.mem_of_mem_drop hx))) []
    rw [List.append_nil, hdl] at this
    rw [this]; rfl
  have hvs : ((List.range ((n + 1) * 1)).map fun i => (I.zero[i % I.zero.length]?).getD .undef) = z' :: List.replicate n z' := by
    rw [← List.replicate_succ, hz']
    apply List.ext_getElem
    · simp
    · intro j h1 h2
      simp [Nat.mod_one]
  have hall : (z' :: List.replicate n z').all AV.one = true := by
    rw [List.all_eq_true]
    intro x hx
    rw [← List.replicate_succ] at hx
    rw [List.eq_of_mem_replicate hx]; exact hz1
  unfold aClear
  simp only [he, hI, isNilSl, slParts, hc.1, hn, Bool.false_eq_true, if_false]
  rw [if_neg (Nat.succ_ne_zero n), if_pos ⟨trivial, Nat.one_pos⟩, hvs]
  simp only [stn, hr, List.length_cons, List.length_replicate]
  rw [if_pos ⟨trivial, trivial, hall, hk⟩, List.drop_eq_nil_of_le (by omega)]
  simp [List.replicate_succ]

theorem ixS_spec (p : Int → Bool) : ∀ (l : List Int) (i : Nat), (ixS p l i = -1 ∧ ∀ x ∈ l, p x = false) ∨ ∃ k, ∃ h : k < l.length, ixS p l i = ((i + k : Nat) : Int) ∧ p l[k] = true ∧ ∀ x ∈ l.take k, p x = false
  | [], i => .inl ⟨rfl, by simp⟩
  | y :: l, i => by
    simp only [ixS]
    by_cases hy : p y = true
    · exact .inr ⟨0, by simp, by simp [hy], by simpa using hy, by simp⟩
    · rw [if_neg hy]
      rcases ixS_spec p l (i + 1) with ⟨h1, h2⟩ | ⟨k, h, h1, h2, h3⟩
      · exact .inl ⟨h1, by simpa using ⟨by simpa using hy, h2⟩⟩
      · refine .inr ⟨k + 1, by simp; omega, by rw [h1]; congr 1; omega, by simpa using h2, ?_⟩
        simpa using ⟨by simpa using hy, h3⟩
def lack (l o : List Int) : List Int := l.filter fun y => decide (y ∉ o)
theorem lack_take {l o : List Int} {j : Nat} (hj : j < l.length) : lack (l.take (j + 1)) o = lack (l.take j) o ++ if l[j] ∈ o then [] else [l[j]] := by
  unfold lack
  rw [List.take_add_one, List.getElem?_eq_getElem hj, List.filter_append]
  by_cases h : l[j] ∈ o <;> simp [h]
def OwnG (N : Nat) (H : AH) (v : AV) (l : List Int) : Prop := OwnF N H v (l.map (.int .i64)) ∨ OwnT N H v (l.map (.int .i64))

set_option maxRecDepth 100000 in
theorem DeleteFunc_ac (v : AV) (l : List Int) (q s : Nat) (ov : AV) (o : List Int) (H0 H : AH) (Q : AV → AH → Prop) (hE : Ext H0 H) (hl : l.length ≤ 1000000) (hv : OwnF H0.length H v (l.map (.int .i64))) (ho : o.length ≤ 1000000) (hq : H0[q]? = some (.row [ov] 0 s false)) (hone : ov.one = true) (hov : Ls H0 ov o)
    (h : ∀ v' H', OwnG H0.length H' v' (lack l o) → Ext H0 H' → Q v' H') : AC Try.prog 94 [v, .func (.func 95) [] [.ptr q 0 0]] H Q := by
  have hls : Ls H v l := by
    rcases hv with ⟨h1, rfl⟩ | ⟨r, ver, stale, h1, rfl, h3⟩
    · obtain rfl : l = [] := by simpa using h1
      exact ⟨none, 0, 0, 1, false, rfl, fun i hi => by simp at hi⟩
    · have := Ls.row h3 false
      simpa using this
  refine L_body 42 Try.func94 rfl rfl ?_
  refine L_reg [0, 1] (fun K hK => ?_)
  simp
  apply hK; clear hK K
  refine L_reg [0, 1, 5] (fun K hK => ?_)
  simp [okFn_low]
  refine IndexFunc_ac v l q s ov o _ _ hl hls ho (hE.row hq) hone (hov.ext hE) ?_
  simp
  apply hK; clear hK K
  refine L_reg [0, 1, 5, 12] (fun K hK => ?_)
  simp
  apply hK; clear hK K
  rcases ixS_spec (fun y => decide (y ∈ o)) l 0 with ⟨h1, h2⟩ | ⟨k0, hk0, h1, h2, h3⟩
  · refine L_true (by simp [h1]) ?_
    refine L_reg [4] (fun K hK => ?_)
    simp
    apply hK; clear hK K
    have : lack l o = l := by
      unfold lack
      rw [List.filter_eq_self]
      intro x hx
      simpa using h2 x hx
    exact L_ret ⟨.inr rfl, _, rfl, h v H (by rw [this]; exact .inl hv) hE⟩
  · refine L_false (by simp [h1]) ?_
    rw [h1]
    rcases hv with ⟨g1, -⟩ | ⟨r, ver, stale, g1, rfl, g3⟩
    · obtain rfl : l = [] := by simpa using g1
      simp at hk0
    simp only [List.length_map, Nat.zero_add]
    have h2' : l[k0] ∈ o := by simpa using h2
    have hk1 : lack (l.take k0) o = l.take k0 := by
      unfold lack
      rw [List.filter_eq_self]
      intro x hx
      simpa using h3 x hx
    refine L_reg [0, 1, 5, 6] (fun K hK => ?_)
    simp [wrap_i64 (a := (k0 : Int) + 1) (by omega)]
    apply hK; clear hK K
    refine L_block (L_loopV [5, 6] (fun k vs H' => ∃ (i j : Nat) (c : List Int) (st : Nat), k = l.length - j ∧ i < j ∧ j ≤ l.length ∧ c.length = l.length ∧ c.take i = lack (l.take j) o ∧ c.drop j = l.drop j ∧ vs = [.int .i64 i, .int .i64 j] ∧ H'[r]? = some (.row (c.map (.int .i64)) ver st false) ∧ Ext H0 H') _ [.int .i64 k0, .int .i64 (k0 + 1 : Nat)] rfl ⟨k0, k0 + 1, l, stale, rfl, by omega, by omega, rfl, by rw [lack_take hk0, hk1]; simp [h2'], rfl, rfl, g3, hE⟩ ?_)
    rintro k _ H1 ⟨i, j, c, st, rfl, hij, hj, hcl, hct, hcd, rfl, hrow, hE1⟩
    refine L_reg [0, 1, 5, 6, 19] (fun K hK => ?_)
    simp
    apply hK; clear hK K
    refine L_dec (j < l.length) (by simp) (fun hlt => ?_) (fun hge => L_exit ?_)
    · have hcj : c[j]'(by omega) = l[j] := by
        rw [List.drop_eq_getElem_cons (by omega), List.drop_eq_getElem_cons hlt] at hcd
        exact (List.cons.inj hcd).1
      have hcd' : c.drop (j + 1) = l.drop (j + 1) := by
        rw [List.drop_eq_getElem_cons (by omega), List.drop_eq_getElem_cons hlt] at hcd
        exact (List.cons.inj hcd).2
      have hrd : ld H1 r j ver = some (.int .i64 l[j]) := by rw [ld_row hrow, ← hcj]; simp [show j < c.length by omega]
      refine L_block ?_
      refine L_reg [0, 1, 5, 6, 7] (fun K hK => ?_)
      simp [hlt, hrd]
      apply hK; clear hK K
      refine L_reg [0, 1, 5, 6, 7, 29] (fun K hK => ?_)
      simp [okFn_low]
      refine lack1_ac _ q s ov o _ _ ho (hE1.row hq) hone (hov.ext hE1) ?_
      simp
      apply hK; clear hK K
      by_cases hm : l[j] ∈ o
      · refine L_false (by simp [hm]) ?_
        refine L_reg [0, 1, 5, 6] (fun K hK => ?_)
        simp [wrap_i64 (a := (j : Int) + 1) (by omega)]
        apply hK; clear hK K
        exact ⟨l.length - (j + 1), [.int .i64 i, .int .i64 (j + 1 : Nat)], by omega, by simp, i, j + 1, c, st, rfl, by omega, by omega, hcl, by rw [hct, lack_take hlt]; simp [hm], hcd', rfl, hrow, hE1⟩
      · refine L_true (by simp [hm]) ?_
        have hst := store_row (P := Try.prog) (u := 3) (p := i) sc3 (x := .int .i64 l[j]) (y := .int .i64 (c[i]'(by omega))) rfl hrow (by simp [show i < c.length by omega])
        rw [← List.map_set] at hst
        refine L_reg [0, 1, 5, 6, 7] (fun K hK => ?_)
        simp [show i < l.length by omega, hst]
        apply hK; clear hK K
        refine L_reg [0, 1, 5, 6] (fun K hK => ?_)
        simp [wrap_i64 (a := (i : Int) + 1) (by omega)]
        apply hK; clear hK K
        refine L_reg [0, 1, 5, 6] (fun K hK => ?_)
        simp [wrap_i64 (a := (j : Int) + 1) (by omega)]
        apply hK; clear hK K
        refine ⟨l.length - (j + 1), [.int .i64 (i + 1 : Nat), .int .i64 (j + 1 : Nat)], by omega, by simp, i + 1, j + 1, c.set i l[j], min st i, rfl, by omega, by omega, by simpa using hcl, ?_, ?_, rfl, by rw [get_set hrow, List.map_set], hE1.set _ (by omega)⟩
        · rw [lack_take hlt, if_neg hm, ← hct, List.take_add_one, List.take_set_of_le (by omega)]
          simp [show i < c.length by omega]
        · rw [List.drop_set_of_lt (by omega)]; exact hcd'
    · obtain rfl : j = l.length := by omega
      rw [List.take_length] at hct
      have e2 : aSlice Try.prog 22 (.slice (some r) 0 l.length ver 1 false) (some (.int .i64 (i : Int))) none none = some (.slice (some r) i (l.length - i) ver 1 false) := by
        have := slice_lo slz22 (some r) 0 l.length ver false (k := .i64) (i := i) (by omega)
        simpa using this
      have e1 : aSlice Try.prog 22 (.slice (some r) 0 l.length ver 1 false) none (some (.int .i64 (i : Int))) none = some (.slice (some r) 0 i ver 1 false) := by
        have := slice_hi slz22 (some r) 0 l.length ver false (k := .i64) (i := i) (by omega)
        simpa using this
      have hint : ∀ x ∈ c.map (AV.int .i64), x.one = true := by
        intro x hx
        obtain ⟨y, -, rfl⟩ := List.mem_map.1 hx; rfl
      have e3 := clear_tail elz22 hrow hint rfl (i := i) (by simp; omega) false
      simp only [List.length_map, hcl] at e3
      refine L_reg [0, 5] (fun K hK => ?_)
      simp [e2, e3]
      apply hK; clear hK K
      refine L_reg [4] (fun K hK => ?_)
      simp [e1]
      apply hK; clear hK K
      have hil : i = (lack l o).length := by rw [← hct]; simp; omega
      refine L_ret ⟨.inr rfl, _, rfl, h _ _ (.inr ⟨r, ver, min st i, List.replicate (l.length - i) (.int .i64 0), g1, by rw [hil]; simp, ?_, ?_⟩) (hE1.set _ g1)⟩
      · rw [get_set hrow, ← hct, List.map_take]
      · intro x hx
        rcases List.mem_append.1 hx with hx | hx
        · obtain ⟨y, -, rfl⟩ := List.mem_map.1 hx; rfl
        · rw [List.eq_of_mem_replicate hx]; rfl
set_option maxRecDepth 100000 in
theorem lacking_ac (u v : AV) (l o : List Int) (H : AH) (Q : AV → AH → Prop) (hl : l.length ≤ 1000000) (ho : o.length ≤ 1000000) (hu : Ls H u l) (hv : Ls H v o) (h : ∀ v' H', OwnG H.length H' v' (lack l o) → Ext H H' → Q v' H') : AC Try.prog 67 [u, v] H Q := by
  obtain ⟨r0, off0, ver0, sz0, full0, hv0, -⟩ := id hv
  refine L_body 9 Try.func67 rfl rfl ?_
  refine L_reg [0, 3] (fun K hK => ?_)
  simp [hv0, AV.isU, acells]
  apply hK; clear hK K
  have hE1 : Ext H (H ++ [AObj.row [.slice r0 off0 o.length ver0 sz0 full0] 0 0 false]) := .push _ _
  have hq : (H ++ [AObj.row [.slice r0 off0 o.length ver0 sz0 full0] 0 0 false])[H.length]? = some (.row [.slice r0 off0 o.length ver0 sz0 full0] 0 0 false) := by simp
  generalize H ++ [AObj.row [.slice r0 off0 o.length ver0 sz0 full0] 0 0 false] = H1 at hE1 hq ⊢
  have hov : Ls H1 (.slice r0 off0 o.length ver0 sz0 full0) o := hv0 ▸ hv.ext hE1
  refine L_reg [4] (fun K hK => ?_)
  simp [okFn_low]
  refine kept_ac u l H1 _ hl (hu.ext hE1) (fun w H2 hw hE2 => ?_)
  simp [okFn_low]
  refine DeleteFunc_ac w l H.length 0 (.slice r0 off0 o.length ver0 sz0 full0) o H1 H2 _ hE2 hl hw ho hq rfl hov (fun v' H3 hv' hE3 => ?_)
  simp
  apply hK; clear hK K
  have hle := hE1.1
  refine L_ret ⟨.inr rfl, _, rfl, h v' H3 ?_ (hE1.trans hE3)⟩
  rcases hv' with g | ⟨r, ver, stale, tl, g1, g2⟩
  · exact .inl (ownF_less g hle)
  · exact .inr ⟨r, ver, stale, tl, by omega, g2⟩
/-- The exact form, where something is lacking. -/
theorem lacking_q (u v : AV) (l o : List Int) (H : AH) (hl : l.length ≤ 1000000) (ho : o.length ≤ 1000000) (hu : Ls H u l) (hv : Ls H v o) (hne : lack l o ≠ []) (Q : AV → AH → Prop)
    (hq : Q (.slice (some H.length) 0 (lack l o).length 0 1 false) (H ++ [.row ((lack l o).map (.int .i64)) 0 (lack l o).length false])) : AC Try.prog 67 [u, v] H Q := by
  refine AC_fin (lacking_ac u v l o H _ hl ho hu hv fun v' H' hO hE => ?_)
  refine ⟨⟨hE.1, fun r o hr ho => .inl (by rw [← hE.2 r hr]; exact ho)⟩, ?_⟩
  have ht : H'.take H.length = H := by
    obtain ⟨T, rfl⟩ := hE.app
    simp
  have hO' : OwnT H.length H' v' ((lack l o).map (.int .i64)) := by
    rcases hO with g | g
    · exact g.more (by simpa using hne) (fun x hx => by obtain ⟨y, -, rfl⟩ := List.mem_map.1 hx; rfl)
    · exact g
  have hb := belB_ints H.length (lack l o)
  obtain ⟨r, ver, stale, tl, hr, rfl, hrow, -⟩ := hO'
  have hlm : ((lack l o).map (AV.int .i64)).length = (lack l o).length := by simp
  rw [hlm] at *
  have hlm2 : ((lack l o).map (AV.int .i64)).length = (lack l o).length := by simp
  have h1 : belB H.length 4 (.slice (some r) 0 (lack l o).length ver 1 false) = false := by simp [belB]; omega
  have htk : ((lack l o).map (AV.int .i64) ++ tl).take (lack l o).length = (lack l o).map (AV.int .i64) := List.take_left' hlm2
  have h2 : finSlice H.length H' (.slice (some r) 0 (lack l o).length ver 1 false) = some (.slice (some H.length) 0 (lack l o).length 0 1 false, .row ((lack l o).map (.int .i64)) 0 (lack l o).length false) := by
    simp only [finSlice, hrow, if_pos hr, Nat.mul_one, Nat.zero_add, List.drop_zero]
    rw [htk, if_pos ⟨trivial, by simp, hb⟩]
  have hf : finish H.length H' (.slice (some r) 0 (lack l o).length ver 1 false) = (.slice (some H.length) 0 (lack l o).length 0 1 false, H ++ [.row ((lack l o).map (.int .i64)) 0 (lack l o).length false]) := by
    unfold finish
    rw [h1]
    simp only [Bool.false_eq_true, if_false, h2, ht]
  rw [hf]; exact hq
end Go.Proofs.Ytmoifofihafgmaa

/- Blends: what the checks ask; rounds hold each blend once. -/
namespace Go.Proofs.Ytmoifofihafgmaa
open Go Go.Proofs.Ytmoifofihafgmaa.AX

def Okb (n : Nat) (b : List Int) : Prop := (∀ x ∈ b, 0 ≤ x ∧ x < n) ∧ b.Pairwise (· < ·)
theorem chk_ok {n : Nat} : ∀ {b : List Int} {p : Int}, chk n p b = 0 → (∀ x ∈ b, (0 ≤ x ∧ x < n) ∧ p < x) ∧ b.Pairwise (· < ·)
  | [], _, _ => ⟨by simp, .nil⟩
  | x :: l, p, h => by
    simp only [chk] at h
    split at h
    · cases h
    · split at h
      · cases h
      · obtain ⟨h1, h2⟩ := chk_ok h
        refine ⟨fun y hy => ?_, List.pairwise_cons.2 ⟨fun y hy => (h1 y hy).2, h2⟩⟩
        rcases List.mem_cons.1 hy with rfl | hy
        · omega
        · have := h1 y hy; omega
theorem okb_len : ∀ {n : Nat} {b : List Int}, Okb n b → b.length ≤ n
  | n, b, h => by
    rcases List.eq_nil_or_concat b with rfl | ⟨c, x, rfl⟩
    · simp
    · obtain ⟨h1, h2⟩ := h
      rw [List.concat_eq_append] at *
      have hx := h1 x (by simp)
      obtain ⟨n, rfl⟩ : ∃ m, n = m + 1 := ⟨n - 1, by omega⟩
      have hc : Okb n c := by
        refine ⟨fun y hy => ?_, (List.pairwise_append.1 h2).1⟩
        have := (List.pairwise_append.1 h2).2.2 y hy x (by simp)
        have := h1 y (by simp [hy])
        omega
      have := okb_len hc
      simp; omega
theorem okb_iota (n : Nat) : Okb n (iota n) := by
  constructor
  · intro x hx
    simp only [iota, List.mem_map, List.mem_range] at hx
    obtain ⟨i, hi, rfl⟩ := hx
    omega
  · unfold iota
    rw [List.pairwise_map]
    exact List.pairwise_lt_range.imp (by omega)
theorem okb_round : ∀ {n k : Nat} {l : List Int}, l ∈ roundS n k → Okb n l
  | 0, k, l, h => by
    simp only [roundS] at h
    split at h
    · simp at h; subst h; exact ⟨by simp, .nil⟩
    · simp at h
  | n + 1, k, l, h => by
    simp only [roundS] at h
    split at h
    · simp at h; subst h; exact ⟨by simp, .nil⟩
    · split at h
      · simp at h; subst h; exact okb_iota _
      · rw [List.mem_append] at h
        rcases h with h | h
        · obtain ⟨h1, h2⟩ := okb_round h
          exact ⟨fun x hx => by have := h1 x hx; omega, h2⟩
        · simp only [List.mem_map, List.mem_reverse] at h
          obtain ⟨m, hm, rfl⟩ := h
          obtain ⟨h1, h2⟩ := okb_round hm
          refine ⟨fun x hx => ?_, List.pairwise_append.2 ⟨h2, by simp, fun x hx y hy => ?_⟩⟩
          · rcases List.mem_append.1 hx with hx | hx
            · have := h1 x hx; omega
            · simp at hx; omega
          · simp at hy; have := h1 x hx; omega
theorem okb_mem : ∀ {n : Nat} {b : List Int}, Okb n b → b ∈ roundS n b.length
  | 0, b, h => by
    have := okb_len h
    obtain rfl : b = [] := List.eq_nil_of_length_eq_zero (by omega)
    simp [roundS]
  | n + 1, b, h => by
    rcases List.eq_nil_or_concat b with rfl | ⟨c, x, rfl⟩
    · simp [roundS]
    · rw [List.concat_eq_append] at *
      obtain ⟨h1, h2⟩ := h
      have hx := h1 x (by simp)
      obtain ⟨g1, -, g2⟩ := List.pairwise_append.1 h2
      have hc : Okb n c := by
        refine ⟨fun y hy => ?_, g1⟩
        have := g2 y hy x (by simp)
        have := h1 y (by simp [hy])
        omega
      have hcl := okb_len hc
      have hcm := okb_mem hc
      simp only [List.length_append, List.length_singleton, roundS]
      rw [if_neg (by omega)]
      by_cases hxn : x = n
      · subst hxn
        by_cases hf : c.length = n
        · rw [if_pos (by omega)]
          rw [hf, roundS_full] at hcm
          simp only [List.mem_singleton] at hcm
          rw [iota_succ, ← hcm]
          simp
        · rw [if_neg (by omega), List.mem_append]
          right
          simp only [List.mem_map, List.mem_reverse]
          exact ⟨c, by simpa using hcm, rfl⟩
      · have hb : Okb n (c ++ [x]) := ⟨fun y hy => by
          rcases List.mem_append.1 hy with hy | hy
          · have := hc.1 y hy; omega
          · simp at hy; omega, h2⟩
        have hl := okb_len hb
        simp only [List.length_append, List.length_singleton] at hl
        rw [if_neg (by omega), List.mem_append]
        left
        simpa using okb_mem hb
theorem round_le : ∀ (n k : Nat), (roundS n k).length ≤ 2 ^ n
  | 0, k => by simp only [roundS]; split <;> simp
  | n + 1, k => by
    simp only [roundS]
    have h1 := round_le n k
    have h2 := round_le n (k - 1)
    have h3 : 0 < 2 ^ n := Nat.pow_pos (by omega)
    split
    · simp; omega
    · split
      · simp; omega
      · simp; omega
theorem round_le2 {n k : Nat} (hn : n ≤ 10) : (roundS n k).length ≤ 1024 := Nat.le_trans (round_le n k) (Nat.pow_le_pow_right (by omega) hn)
theorem round_pos : ∀ {n k : Nat}, k ≤ n → 0 < (roundS n k).length
  | 0, k, h => by simp [roundS, show k = 0 by omega]
  | n + 1, k, h => by
    simp only [roundS]
    split
    · simp
    · split
      · simp
      · have := round_pos (n := n) (k := k) (by omega)
        simp; omega
theorem round_two {n k : Nat} (h0 : k ≠ 0) (h1 : k < n) : 2 ≤ (roundS n k).length := by
  obtain ⟨n, rfl⟩ : ∃ m, n = m + 1 := ⟨n - 1, by omega⟩
  have a := round_pos (n := n) (k := k) (by omega)
  have b := round_pos (n := n) (k := k - 1) (by omega)
  simp only [roundS]
  rw [if_neg h0, if_neg (by omega)]
  simp; omega
theorem round_one {n k : Nat} (h1 : k ≤ n) : (roundS n k).length = 1 ↔ k = 0 ∨ k = n := by
  constructor
  · intro h
    by_cases h0 : k = 0
    · exact .inl h0
    · by_cases hn : k = n
      · exact .inr hn
      · have := round_two h0 (show k < n by omega); omega
  · rintro (rfl | rfl)
    · simp [roundS_zero]
    · simp [roundS_full]
theorem round_nodup : ∀ (n k : Nat), (roundS n k).Pairwise (· ≠ ·)
  | 0, k => by simp only [roundS]; split <;> simp
  | n + 1, k => by
    simp only [roundS]
    split
    · simp
    · split
      · simp
      · rw [List.pairwise_append]
        refine ⟨round_nodup n k, ?_, ?_⟩
        · rw [List.pairwise_map, List.pairwise_reverse]
          exact (round_nodup n (k - 1)).imp fun h e => h (List.append_cancel_right e).symm
        · intro l hl m hm e
          simp only [List.mem_map, List.mem_reverse] at hm
          obtain ⟨c, hc, rfl⟩ := hm
          subst e
          have := (okb_round hl).1 n (by simp)
          omega
theorem idxS_get {b : List Int} : ∀ {F : List (List Int)}, b ∈ F → ∃ h : idxS b F < F.length, F[idxS b F] = b
  | l :: F, h => by
    simp only [idxS]
    by_cases hl : l = b
    · simp [hl]
    · rcases List.mem_cons.1 h with h | h
      · exact absurd h.symm hl
      · obtain ⟨g1, g2⟩ := idxS_get h
        simp only [if_neg hl]
        exact ⟨by simpa using g1, by simpa using g2⟩
theorem idxS_drop {b : List Int} {F : List (List Int)} {i : Nat} (hi : i < F.length) : idxS b (F.drop i) = if F[i] = b then 0 else idxS b (F.drop (i + 1)) + 1 := by
  rw [List.drop_eq_getElem_cons hi]; rfl
theorem sub_eq : ∀ {l m : List Int}, l.Pairwise (· < ·) → m.Pairwise (· < ·) → (∀ x ∈ l, x ∈ m) → m.length ≤ l.length → l = m
  | [], [], _, _, _, _ => rfl
  | [], y :: m, _, _, _, h => by simp at h
  | x :: l, [], _, _, h, _ => by have := h x (by simp); simp at this
  | x :: l, y :: m, hl, hm, h, hlen => by
    obtain ⟨a1, a2⟩ := List.pairwise_cons.1 hl
    obtain ⟨b1, b2⟩ := List.pairwise_cons.1 hm
    rcases List.mem_cons.1 (h x (by simp)) with rfl | hx
    · have := sub_eq a2 b2 (fun z hz => by
        rcases List.mem_cons.1 (h z (by simp [hz])) with rfl | h3
        · have := a1 _ hz; omega
        · exact h3) (by simpa using hlen)
      rw [this]
    · have hyx := b1 x hx
      have := sub_eq hl b2 (fun z hz => by
        rcases List.mem_cons.1 (h z hz) with rfl | h3
        · rcases List.mem_cons.1 hz with e | e
          · omega
          · have := a1 _ e; omega
        · exact h3) (by simp at hlen ⊢; omega)
      rw [this] at hlen
      simp at hlen
      omega
theorem lack_ne {n : Nat} {l m : List Int} (hl : Okb n l) (hm : Okb n m) (he : l.length = m.length) (hne : l ≠ m) : lack l m ≠ [] := by
  intro h
  apply hne
  refine sub_eq hl.2 hm.2 (fun x hx => ?_) (by omega)
  unfold lack at h
  rw [List.filter_eq_nil_iff] at h
  simpa using h x hx
theorem next_ne {n : Nat} {b : List Int} (hb : Okb n b) (h0 : b.length ≠ 0) (h1 : b.length ≠ n) :
    ∃ h : (idxS b (roundS n b.length) + 1) % (roundS n b.length).length < (roundS n b.length).length, (roundS n b.length)[(idxS b (roundS n b.length) + 1) % (roundS n b.length).length] ≠ b := by
  have hl := okb_len hb
  have h2 := round_two h0 (show b.length < n by omega)
  obtain ⟨g1, g2⟩ := idxS_get (okb_mem hb)
  have hnd := round_nodup n b.length
  generalize hF : roundS n b.length = F at *
  generalize hi : idxS b F = i at *
  have hlt : (i + 1) % F.length < F.length := Nat.mod_lt _ (by omega)
  refine ⟨hlt, fun e => ?_⟩
  have hne : (i + 1) % F.length ≠ i := by
    by_cases hc : i + 1 = F.length
    · rw [hc, Nat.mod_self]; omega
    · rw [Nat.mod_eq_of_lt (by omega)]; omega
  rw [List.pairwise_iff_getElem] at hnd
  rcases Nat.lt_or_gt_of_ne hne with h | h
  · exact hnd _ _ hlt g1 h (by rw [e, g2])
  · exact hnd _ _ g1 hlt h (by rw [e, g2])
end Go.Proofs.Ytmoifofihafgmaa

/- Count, Number, Nth and Next of the program. -/
namespace Go.Proofs.Ytmoifofihafgmaa
open Go Go.Proofs.Ytmoifofihafgmaa.AX

def fS (n k : Int) : List (List Int) := roundS n.toNat k.toNat
def countS (n k : Int) : Int := if sizeE n k = 0 then ((fS n k).length : Int) else 0
def numS (n : Int) (b : List Int) : Int := if checkE n b = 0 then (idxS b (fS n b.length) : Int) else 0
def nthE (n k i : Int) : Int := if sizeE n k = 0 then (if i < 0 ∨ ((fS n k).length : Int) ≤ i then 2 else 0) else sizeE n k
def nthS (n k i : Int) : List Int := if nthE n k i = 0 then (fS n k)[i.toNat]?.getD [] else []
def nextE (n : Int) (b : List Int) : Int := if checkE n b = 0 then (if b.length = 0 ∨ (b.length : Int) = n then 12 else 0) else checkE n b
def nextS (n : Int) (b : List Int) : List Int := if nextE n b = 0 then (fS n b.length)[(idxS b (fS n b.length) + 1) % (fS n b.length).length]?.getD [] else []
def outS (n : Int) (b : List Int) : Int := if nextE n b = 0 then (lack b (nextS n b)).headD 0 else 0
def inS (n : Int) (b : List Int) : Int := if nextE n b = 0 then (lack (nextS n b) b).headD 0 else 0

theorem leaves_ok {n : Int} (h : leavesE n = 0) : 1 ≤ n ∧ n ≤ 10 := by
  unfold leavesE at h
  split at h <;> omega
theorem size_ok {n k : Int} (h : sizeE n k = 0) : ∃ N K : Nat, n = (N : Int) ∧ k = (K : Int) ∧ K ≤ N ∧ N ≤ 10 ∧ 1 ≤ N := by
  unfold sizeE at h
  split at h
  · rename_i h1
    have := leaves_ok h1
    split at h
    · omega
    · exact ⟨n.toNat, k.toNat, by omega, by omega, by omega, by omega, by omega⟩
  · contradiction
theorem check_ok {n : Int} {b : List Int} (h : checkE n b = 0) : ∃ N : Nat, n = (N : Int) ∧ N ≤ 10 ∧ 1 ≤ N ∧ Okb N b := by
  unfold checkE at h
  split at h
  · rename_i h1
    have h2 := leaves_ok h1
    obtain ⟨N, rfl⟩ : ∃ N : Nat, n = (N : Int) := ⟨n.toNat, by omega⟩
    obtain ⟨g1, g2⟩ := chk_ok h
    exact ⟨N, rfl, by omega, by omega, fun x hx => (g1 x hx).1, g2⟩
  · contradiction

theorem Count_ac (n k : Int) (H : AH) (Q : AV → AH → Prop) (h : Q (.tuple [.int .i64 (countS n k), .int .i64 (sizeE n k)]) H) : AC Try.prog 16 [.int .i64 n, .int .i64 k] H Q := by
  refine L_body 16 Try.func16 rfl rfl ?_
  refine L_reg [0, 1] (fun K hK => ?_)
  simp
  apply hK; clear hK K
  refine L_reg [0, 1, 6] (fun K hK => ?_)
  simp [okFn_low]
  refine checkSize_ac n k _ _ ?_
  simp
  apply hK; clear hK K
  refine L_reg [0, 1, 6, 11] (fun K hK => ?_)
  simp
  apply hK; clear hK K
  unfold countS at h
  refine L_split rfl (fun ht => ?_) (fun hf => ?_)
  · have hne : sizeE n k ≠ 0 := by simpa using ht
    rw [if_neg hne] at h
    refine L_reg [4, 5] (fun K hK => ?_)
    simp
    apply hK; clear hK K
    exact L_ret ⟨.inr rfl, _, rfl, h⟩
  · have he : sizeE n k = 0 := by simpa using hf
    rw [if_pos he, he] at h
    obtain ⟨N, M, rfl, rfl, hK1, hN, -⟩ := size_ok he
    refine L_reg [4, 5] (fun K hK => ?_)
    simp [okFn_low]
    refine many_q N M hK1 hN _ _ (by have := round_le2 (k := M) hN; omega) ?_
    simp
    apply hK; clear hK K
    exact L_ret ⟨.inr rfl, _, rfl, by simpa [fS] using h⟩
theorem Number_ac (n : Int) (v : AV) (b : List Int) (H : AH) (Q : AV → AH → Prop) (hb : b.length ≤ 1000000) (hv : Ls H v b) (h : Q (.tuple [.int .i64 (numS n b), .int .i64 (checkE n b)]) H) : AC Try.prog 18 [.int .i64 n, v] H Q := by
  obtain ⟨r0, off0, ver0, sz0, full0, hv0, -⟩ := id hv
  refine L_body 16 Try.func18 rfl rfl ?_
  refine L_reg [0, 1] (fun K hK => ?_)
  simp
  apply hK; clear hK K
  refine L_reg [0, 1, 6] (fun K hK => ?_)
  simp [okFn_low]
  refine Check_ac n v b _ _ hb hv ?_
  simp
  apply hK; clear hK K
  refine L_reg [0, 1, 6, 11] (fun K hK => ?_)
  simp
  apply hK; clear hK K
  unfold numS at h
  refine L_split rfl (fun ht => ?_) (fun hf => ?_)
  · have hne : checkE n b ≠ 0 := by simpa using ht
    rw [if_neg hne] at h
    refine L_reg [4, 5] (fun K hK => ?_)
    simp
    apply hK; clear hK K
    exact L_ret ⟨.inr rfl, _, rfl, h⟩
  · have he : checkE n b = 0 := by simpa using hf
    rw [if_pos he, he] at h
    obtain ⟨N, rfl, hN, -, hok⟩ := check_ok he
    refine L_reg [4, 5] (fun K hK => ?_)
    simp [okFn_low]
    refine place_q N v b (okb_len hok) hN _ hv (by have := round_le2 (k := b.length) hN; omega) _ ?_
    simp
    apply hK; clear hK K
    exact L_ret ⟨.inr rfl, _, rfl, by simpa [fS] using h⟩
theorem Ls.none (H : AH) : Ls H (.slice none 0 0 0 1 false) [] := ⟨Option.none, 0, 0, 1, false, rfl, fun i hi => by simp at hi⟩
theorem ownF_ls {N : Nat} {H : AH} {v : AV} {l : List Int} (h : OwnF N H v (l.map (.int .i64))) : Ls H v l := by
  rcases h with ⟨h1, rfl⟩ | ⟨r, ver, stale, h1, rfl, h3⟩
  · obtain rfl : l = [] := by simpa using h1
    exact Ls.none H
  · have := Ls.row h3 false
    simpa using this
theorem Nth_ac (n k i : Int) (H : AH) (Q : AV → AH → Prop) (h : ∀ v' H', Ls H' v' (nthS n k i) → Ext H H' → Q (.tuple [v', .int .i64 (nthE n k i)]) H') : AC Try.prog 20 [.int .i64 n, .int .i64 k, .int .i64 i] H Q := by
  refine L_body 28 Try.func20 rfl rfl ?_
  refine L_reg [0, 1, 2] (fun K hK => ?_)
  simp
  apply hK; clear hK K
  refine L_reg [0, 1, 2, 8] (fun K hK => ?_)
  simp [okFn_low]
  refine checkSize_ac n k _ _ ?_
  simp
  apply hK; clear hK K
  refine L_reg [0, 1, 2, 8, 13] (fun K hK => ?_)
  simp
  apply hK; clear hK K
  unfold nthS at h
  refine L_split rfl (fun ht => ?_) (fun hf => ?_)
  · have hne : sizeE n k ≠ 0 := by simpa using ht
    have hE : nthE n k i = sizeE n k := if_neg hne
    rw [hE, if_neg hne] at h
    refine L_reg [6, 7] (fun K hK => ?_)
    simp
    apply hK; clear hK K
    exact L_ret ⟨.inr rfl, _, rfl, h _ _ (Ls.none H) (.refl H)⟩
  · have he : sizeE n k = 0 := by simpa using hf
    obtain ⟨N, M, rfl, rfl, hK1, hN, -⟩ := size_ok he
    have hT := round_le2 (k := M) hN
    have hfS : fS N M = roundS N M := by simp [fS]
    have hE : nthE N M i = if i < 0 ∨ ((roundS N M).length : Int) ≤ i then 2 else 0 := by rw [← hfS]; exact if_pos he
    rw [hfS] at h
    by_cases hi : i < 0
    · rw [if_pos (.inl hi)] at hE
      rw [hE, if_neg (by decide)] at h
      refine L_reg [0, 1, 2, 23] (fun K hK => ?_)
      simp [pickV, hi]
      apply hK; clear hK K
      refine L_true (by simp) ?_
      refine L_reg [6, 7] (fun K hK => ?_)
      simp
      apply hK; clear hK K
      exact L_ret ⟨.inr rfl, _, rfl, h _ _ (Ls.none H) (.refl H)⟩
    · refine L_reg [0, 1, 2, 23] (fun K hK => ?_)
      simp [okFn_low, hi]
      refine many_q N M hK1 hN _ _ (by omega) ?_
      simp [pickV]
      apply hK; clear hK K
      refine L_dec (((roundS N M).length : Int) ≤ i) (by simp) (fun hge => ?_) (fun hlt => ?_)
      · rw [if_pos (.inr hge)] at hE
        rw [hE, if_neg (by decide)] at h
        refine L_reg [6, 7] (fun K hK => ?_)
        simp
        apply hK; clear hK K
        exact L_ret ⟨.inr rfl, _, rfl, h _ _ (Ls.none H) (.refl H)⟩
      · rw [if_neg (by omega)] at hE
        rw [hE, if_pos rfl] at h
        obtain ⟨m, rfl⟩ : ∃ m : Nat, i = (m : Int) := ⟨i.toNat, by omega⟩
        have hm : m < (roundS N M).length := by omega
        refine L_reg [6, 7] (fun K0 hK0 => ?_)
        simp [okFn_low]
        refine at_ac N M m hK1 hN H _ _ rfl hm (by omega) (fun v' H' hO hE => ?_)
        simp
        apply hK0; clear hK0 K0
        exact L_ret ⟨.inr rfl, _, rfl, h _ _ (by simpa [hm] using ownF_ls hO) hE⟩
theorem head_ls {H : AH} {l : List Int} (hne : l ≠ []) : ld (H ++ [.row (l.map (.int .i64)) 0 l.length false]) H.length 0 0 = some (.int .i64 (l.headD 0)) := by
  cases l with
  | nil => exact absurd rfl hne
  | cons x l => rw [ld_row (c := (x :: l).map (.int .i64)) (v := 0) (s := (x :: l).length) (ro := false) (by simp)]; rfl
set_option maxRecDepth 100000 in
theorem Next_ac (n : Int) (v : AV) (b : List Int) (H : AH) (Q : AV → AH → Prop) (hb : b.length ≤ 1000000) (hv : Ls H v b) (h : ∀ v' H', Ls H' v' (nextS n b) → Ext H H' → Q (.tuple [v', .int .i64 (outS n b), .int .i64 (inS n b), .int .i64 (nextE n b)]) H') : AC Try.prog 23 [.int .i64 n, v] H Q := by
  obtain ⟨r0, off0, ver0, sz0, full0, rfl, -⟩ := id hv
  refine L_body 47 Try.func23 rfl rfl ?_
  refine L_reg [0, 1] (fun K hK => ?_)
  simp
  apply hK; clear hK K
  refine L_reg [0, 1, 8] (fun K hK => ?_)
  simp [okFn_low]
  refine Check_ac n _ b _ _ hb hv ?_
  simp
  apply hK; clear hK K
  refine L_reg [0, 1, 8, 14] (fun K hK => ?_)
  simp
  apply hK; clear hK K
  refine L_split rfl (fun ht => ?_) (fun hf => ?_)
  · have hne : checkE n b ≠ 0 := by simpa using ht
    have hE : nextE n b = checkE n b := if_neg hne
    simp only [outS, inS, nextS, hE, if_neg hne] at h
    refine L_reg [4, 5, 6, 7] (fun K hK => ?_)
    simp
    apply hK; clear hK K
    exact L_ret ⟨.inr rfl, _, rfl, h _ _ (Ls.none H) (.refl H)⟩
  · have he : checkE n b = 0 := by simpa using hf
    have hE : nextE n b = if b.length = 0 ∨ (b.length : Int) = n then 12 else 0 := if_pos he
    obtain ⟨N, rfl, hN, -, hok⟩ := check_ok he
    have hT := round_le2 (k := b.length) hN
    have hfS : fS N b.length = roundS N b.length := by simp [fS]
    have hlb := okb_len hok
    refine L_reg [0, 1, 9] (fun K hK => ?_)
    simp
    apply hK; clear hK K
    by_cases hc : b.length = 0 ∨ (b.length : Int) = N
    · rw [if_pos hc] at hE
      simp only [outS, inS, nextS, hE] at h
      by_cases h0 : b.length = 0
      · refine L_reg [0, 1, 9, 24] (fun K hK => ?_)
        simp [pickV, show ((b.length : Int) == 0) = true by simpa using h0]
        apply hK; clear hK K
        refine L_true (by simp) ?_
        refine L_reg [4, 5, 6, 7] (fun K hK => ?_)
        simp
        apply hK; clear hK K
        exact L_ret ⟨.inr rfl, _, rfl, h _ _ (Ls.none H) (.refl H)⟩
      · have h1 : b.length = N := by omega
        refine L_reg [0, 1, 9, 24] (fun K hK => ?_)
        simp [pickV, show ((b.length : Int) == 0) = false by simpa using h0]
        apply hK; clear hK K
        refine L_true (by simp; omega) ?_
        refine L_reg [4, 5, 6, 7] (fun K hK => ?_)
        simp
        apply hK; clear hK K
        exact L_ret ⟨.inr rfl, _, rfl, h _ _ (Ls.none H) (.refl H)⟩
    · have h0 : b.length ≠ 0 := by omega
      have h1 : b.length ≠ N := by omega
      rw [if_neg hc] at hE
      obtain ⟨hlt, hne⟩ := next_ne hok h0 h1
      simp only [outS, inS, nextS, hE, if_true, hfS] at h
      have hi := (idxS_get (okb_mem hok)).1
      have hmem := List.getElem_mem hlt
      have hlen := roundS_len _ _ _ hmem
      have hokn := okb_round hmem
      generalize hF : roundS N b.length = F at *
      rw [List.getElem?_eq_getElem hlt] at h
      simp only [Option.getD_some] at h
      generalize hj : (idxS b F + 1) % F.length = j at *
      refine L_reg [0, 1, 9, 24] (fun K hK => ?_)
      simp [pickV, show ((b.length : Int) == 0) = false by simpa using h0]
      apply hK; clear hK K
      refine L_false (by simp; omega) ?_
      have hw : IntKind.i64.wrap ((idxS b F : Nat) + 1 : Int) = ((idxS b F + 1 : Nat) : Int) := by rw [wrap_i64 (by omega)]; rfl
      have hF0 : F.length ≠ 0 := by omega
      have hmod : ((idxS b F : Int) + 1).tmod (F.length : Int) = (j : Int) := by rw [← hj]; exact (Int.ofNat_tmod (idxS b F + 1) F.length).symm
      have hw2 : IntKind.i64.wrap ((j : Nat) : Int) = (j : Int) := wrap_i64 (by omega)
      refine L_reg [1, 4] (fun K hK => ?_)
      simp [okFn_low]
      refine place_q N _ b hlb hN _ hv (by rw [hF]; omega) _ ?_
      simp [okFn_low, hF, hw]
      refine many_q N b.length hlb hN _ _ (by rw [hF]; omega) ?_
      simp [okFn_low, hF, hF0, hmod]
      refine at_ac N b.length j hlb hN H _ _ hF hlt (by omega) (fun v' H1 hO hE1 => ?_)
      simp
      apply hK; clear hK K
      have hv1 := ownF_ls hO
      have hbv := hv.ext hE1
      have hl1 := lack_ne hok hokn hlen.symm (Ne.symm hne)
      have hl2 := lack_ne hokn hok hlen hne
      generalize hx : F[j] = x at *
      have hp1 : 0 < (lack b x).length := List.length_pos_iff.2 hl1
      have hp2 : 0 < (lack x b).length := List.length_pos_iff.2 hl2
      have e1 := head_ls (H := H1) hl1
      have hE2 : Ext H1 (H1 ++ [AObj.row ((lack b x).map (.int .i64)) 0 (lack b x).length false]) := .push _ _
      have e2 := head_ls (H := H1 ++ [AObj.row ((lack b x).map (.int .i64)) 0 (lack b x).length false]) hl2
      refine L_regX mixed [4, 5, 6, 7] (by kernel_rfl) (fun K hK => ?_)
      simp [okFn_low]
      refine exX_mk (fun Q hQ => lacking_q _ v' b x H1 (by omega) (by omega) hbv hv1 hl1 Q hQ) (.push _ _) ?_
      simp [okFn_low, hp1, e1]
      refine exX_mk (fun Q hQ => lacking_q v' _ x b _ (by omega) (by omega) (hv1.ext hE2) (hbv.ext hE2) hl2 Q hQ) (.push _ _) ?_
      simp [hp2] at e2 ⊢
      simp [e2]
      apply hK; clear hK K
      exact L_ret ⟨.inr rfl, _, rfl, by simpa using h v' _ (hv1.ext (hE2.trans (.push _ [AObj.row ((lack x b).map (.int .i64)) 0 (lack x b).length false]))) (hE1.trans (hE2.trans (.push _ [AObj.row ((lack x b).map (.int .i64)) 0 (lack x b).length false])))⟩
end Go.Proofs.Ytmoifofihafgmaa

/- The reference: Check, all, round. -/
namespace Go.Proofs.Ytmoifofihafgmaa
open Go Go.Proofs.Ytmoifofihafgmaa.AX

theorem rleaves {n : Int} : (1 ≤ n ∧ n ≤ 10) ↔ leavesE n = 0 := by
  unfold leavesE
  split <;> simp <;> omega
/-- What the leaf ahead of place i is, at least. -/
def befS (l : List Int) : Nat → Int
  | 0 => -1
  | i + 1 => l[i]?.getD (-1)
set_option maxRecDepth 100000 in
theorem rCheck_ac (n : Int) (v : AV) (l : List Int) (H : AH) (Q : AV → AH → Prop) (hl : l.length ≤ 1000000) (hv : Ls H v l) (h : Q (.int .i64 (checkE n l)) H) : AC Try.prog 26 [.int .i64 n, v] H Q := by
  obtain ⟨r, off, ver, sz, full, rfl, hld⟩ := hv
  refine L_body 37 Try.func26 rfl rfl ?_
  refine L_reg [0, 1] (fun K hK => ?_)
  simp
  apply hK; clear hK K
  refine L_reg [0, 1, 8] (fun K hK => ?_)
  simp [okFn_low]
  refine in_ac n 1 10 _ _ ?_
  simp
  apply hK; clear hK K
  unfold checkE at h
  by_cases hn : 1 ≤ n ∧ n ≤ 10
  case neg =>
    refine L_true (by simp; omega) ?_
    have hne : leavesE n ≠ 0 := fun e => hn (rleaves.2 e)
    have h1 : leavesE n = 1 := by unfold leavesE at *; split at hne <;> simp_all
    rw [if_neg hne, h1] at h
    refine L_reg [4] (fun K hK => ?_)
    simp
    apply hK; clear hK K
    exact L_ret ⟨.inr rfl, _, rfl, h⟩
  refine L_false (by simp [hn]) ?_
  rw [if_pos (rleaves.1 hn)] at h
  refine L_reg [0, 1, 5] (fun K hK => ?_)
  simp
  apply hK; clear hK K
  refine L_block (L_loopV [5] (fun k vs H' => ∃ i : Nat, k = l.length - i ∧ i ≤ l.length ∧ chk n (-1) l = chk n (befS l i) (l.drop i) ∧ vs = [.int .i64 i] ∧ H = H') _ [.int .i64 (0 : Nat)] rfl ⟨0, rfl, by omega, rfl, rfl, rfl⟩ ?_)
  rintro k _ _ ⟨i, rfl, hi, hx, rfl, rfl⟩
  refine L_reg [0, 1, 5, 12] (fun K hK => ?_)
  simp
  apply hK; clear hK K
  refine L_dec (i < l.length) (by simp) (fun hlt => ?_) (fun hge => L_exit ?_)
  · obtain ⟨r', rfl, rfl, hrd⟩ := hld i hlt
    rw [chk_drop hlt] at hx
    refine L_block ?_
    refine L_reg [0, 1, 5, 22] (fun K hK => ?_)
    simp [okFn_low, hlt, hrd, wrap_i64 (a := n - 1) (by omega)]
    refine in_ac _ _ _ _ _ ?_
    simp
    apply hK; clear hK K
    by_cases h0 : 0 ≤ l[i] ∧ l[i] ≤ n - 1
    case neg =>
      refine L_true (by simp; omega) ?_
      rw [if_pos (by omega)] at hx
      refine L_reg [4] (fun K hK => ?_)
      simp
      apply hK; clear hK K
      exact L_ret ⟨.inr rfl, _, rfl, by rw [hx] at h; exact h⟩
    refine L_false (by simp [h0]) ?_
    rw [if_neg (by omega)] at hx
    cases i with
    | zero =>
      rw [if_neg (by simp only [befS]; omega)] at hx
      refine L_regT mixed [0, 1, 5, 36] (by kernel_rfl) (fun K hK => ?_)
      simp [pickV]
      apply hK; clear hK K
      refine L_false (by simp) ?_
      refine L_reg [0, 1, 5] (fun K hK => ?_)
      simp [wrap_i64 (a := 1) (by omega)]
      apply hK; clear hK K
      exact ⟨l.length - 1, [.int .i64 (1 : Nat)], by omega, by simp, 1, rfl, by omega, by rw [hx]; simp [befS, hlt], rfl, rfl⟩
    | succ i =>
      obtain ⟨r2, h3, -, hrd2⟩ := hld i (by omega)
      obtain rfl := Option.some.inj h3
      have hb : befS l (i + 1) = l[i] := by simp [befS, show i < l.length by omega]
      rw [hb] at hx
      have hw : IntKind.i64.wrap (i : Int) = (i : Int) := wrap_i64 (by omega)
      have hi1 : ((i : Int) + 1).toNat = i + 1 := by omega
      have hg0 : (0 : Int) < (i : Int) + 1 := by omega
      refine L_regT mixed [0, 1, 5, 36] (by kernel_rfl) (fun K hK => ?_)
      simp [pickV, hw, hi1, hg0, hrd, hrd2, show i < l.length by omega, show (0 : Int) ≤ (i : Int) + 1 by omega, show (i : Int) + 1 < (l.length : Int) by omega]
      apply hK; clear hK K
      refine L_dec (l[i + 1] ≤ l[i]) (by simp) (fun h5 => ?_) (fun h5 => ?_)
      · rw [if_pos h5] at hx
        refine L_reg [4] (fun K hK => ?_)
        simp
        apply hK; clear hK K
        exact L_ret ⟨.inr rfl, _, rfl, by rw [hx] at h; exact h⟩
      · rw [if_neg h5] at hx
        refine L_reg [0, 1, 5] (fun K hK => ?_)
        simp [wrap_i64 (a := (i : Int) + 1 + 1) (by omega)]
        apply hK; clear hK K
        exact ⟨l.length - (i + 1 + 1), [.int .i64 (i + 1 + 1 : Nat)], by omega, by simp, i + 1 + 1, rfl, by omega, by rw [hx]; simp [befS, hlt], rfl, rfl⟩
  · obtain rfl : i = l.length := by omega
    rw [List.drop_length] at hx
    refine L_reg [4] (fun K hK => ?_)
    simp
    apply hK; clear hK K
    exact L_ret ⟨.inr rfl, _, rfl, by rw [hx] at h; exact h⟩
theorem rall_ac (n : Nat) (hn : n ≤ 1000) (H : AH) (Q : AV → AH → Prop) (h : ∀ v' H', OwnF H.length H' v' ((iota n).map (.int .i64)) → Ext H H' → Q v' H') : AC Try.prog 92 [.int .i64 n] H Q := by
  refine L_body 15 Try.func92 rfl rfl ?_
  refine L_reg [0] (fun K hK => ?_)
  simp
  apply hK; clear hK K
  refine L_reg [0, 3] (fun K hK => ?_)
  simp
  apply hK; clear hK K
  refine L_reg [0, 3, 4] (fun K hK => ?_)
  simp
  apply hK; clear hK K
  refine L_block (L_loopV [3, 4] (fun k vs H' => ∃ (i : Nat) (v : AV), k = n - i ∧ i ≤ n ∧ OwnF H.length H' v ((iota i).map (.int .i64)) ∧ Ext H H' ∧ vs = [v, .int .i64 i]) _ [.slice none 0 0 0 1 false, .int .i64 (0 : Nat)] rfl ⟨0, _, rfl, by omega, .nil _ _, .refl H, rfl⟩ ?_)
  rintro k _ H1 ⟨i, v, rfl, hi, hO, hE, rfl⟩
  refine L_reg [0, 3, 4, 7] (fun K hK => ?_)
  simp
  apply hK; clear hK K
  refine L_dec (i < n) (by simp) (fun hlt => ?_) (fun hge => L_exit ?_)
  · refine L_block ?_
    obtain ⟨v', H', he, hO', hE'⟩ := ownF_append hE el22 el22 (x := .int .i64 (i : Int)) (m := 1) hO rfl (by simp; omega)
    refine L_reg [0, 3, 4] (fun K hK => ?_)
    simp [he]
    apply hK; clear hK K
    refine L_reg [0, 3, 4] (fun K hK => ?_)
    simp [wrap_i64 (a := (i : Int) + 1) (by omega)]
    apply hK; clear hK K
    refine ⟨n - (i + 1), [v', .int .i64 (i + 1 : Nat)], by omega, by simp, i + 1, v', rfl, by omega, ?_, hE', rfl⟩
    rw [iota_succ, List.map_append]; exact hO'
  · obtain rfl : i = n := by omega
    refine L_reg [2] (fun K hK => ?_)
    simp
    apply hK; clear hK K
    exact L_ret ⟨.inr rfl, _, rfl, h _ _ hO hE⟩
end Go.Proofs.Ytmoifofihafgmaa

/- The reference: the round of a size. -/
namespace Go.Proofs.Ytmoifofihafgmaa
open Go Go.Proofs.Ytmoifofihafgmaa.AX

theorem row0 {P : Program} {H : AH} {t : TypeId} (ht : elT P t = true) : rowV P t 0 [] H = some (some (.slice (some H.length) 0 0 0 1 false), H ++ [.row [] 0 0 false]) := by
  obtain ⟨e, I, h1, h2, h3, h4, hzz⟩ := elT_some ht
  simp [rowV, h1, h2, h3, aFill]
@[simp] theorem row22_0 (H : AH) : rowV Try.prog 22 0 [] H = some (some (.slice (some H.length) 0 0 0 1 false), H ++ [.row [] 0 0 false]) := row0 el22
@[simp] theorem row37_1 (H : AH) (r : Option Nat) (off len ver sz : Nat) (full : Bool) : rowV Try.prog 37 1 [(0, .slice r off len ver sz full)] H = some (some (.slice (some H.length) 0 1 0 1 false), H ++ [.row [.slice r off len ver sz full] 0 1 false]) := row1 el37 rfl rfl

/-- The lists that lie in a row, each in a row of its own. -/
def Els (N r : Nat) (H : AH) (vs : List AV) (l : List (List Int)) : Prop :=
  vs.length = l.length ∧ ∀ i (h : i < l.length), ∃ r' ver s, N ≤ r' ∧ r' ≠ r ∧ vs[i]? = some (.slice (some r') 0 l[i].length ver 1 false) ∧ H[r']? = some (.row (l[i].map (.int .i64)) ver s false)
def Rnd (N : Nat) (H : AH) (v : AV) (l : List (List Int)) : Prop :=
  ∃ r ver st vs, N ≤ r ∧ v = .slice (some r) 0 l.length ver 1 false ∧ H[r]? = some (.row vs ver st false) ∧ Els N r H vs l
/-- All rows but one are as they were. -/
def KeepX (r : Nat) (H H' : AH) : Prop := H.length ≤ H'.length ∧ ∀ j : Nat, j ≠ r → j < H.length → H'[j]? = H[j]?
theorem KeepX.refl (r : Nat) (H : AH) : KeepX r H H := ⟨Nat.le_refl _, fun _ _ _ => rfl⟩
theorem KeepX.ext {r : Nat} {A B C : AH} (h : KeepX r A B) (k : Ext B C) : KeepX r A C := ⟨Nat.le_trans h.1 k.1, fun j h1 h2 => by rw [k.2 j (by have := h.1; omega), h.2 j h1 h2]⟩
theorem KeepX.set {r : Nat} {A B : AH} (h : KeepX r A B) (o : AObj) : KeepX r A (B.set r o) := ⟨by simpa using h.1, fun j h1 h2 => by rw [List.getElem?_set_ne (Ne.symm h1), h.2 j h1 h2]⟩
theorem KeepX.row {r : Nat} {H H' : AH} (h : KeepX r H H') {j : Nat} {o : AObj} (hj : j ≠ r) (ho : H[j]? = some o) : H'[j]? = some o := by
  rw [h.2 j hj (List.getElem?_eq_some_iff.1 ho).1]; exact ho
theorem Els.keep {N r : Nat} {H H' : AH} {vs : List AV} {l : List (List Int)} (h : Els N r H vs l) (hK : KeepX r H H') : Els N r H' vs l :=
  ⟨h.1, fun i hi => by
    obtain ⟨r', ver, s, g1, g2, g3, g4⟩ := h.2 i hi
    exact ⟨r', ver, s, g1, g2, g3, hK.row g2 g4⟩⟩
theorem Rnd.keep {N r : Nat} {H H' : AH} {v : AV} {l : List (List Int)} (h : Rnd N H v l) (hr : r < N) (hK : KeepX r H H') : Rnd N H' v l := by
  obtain ⟨r1, ver, st, vs, h1, h2, h3, h4⟩ := h
  refine ⟨r1, ver, st, vs, h1, h2, hK.row (by omega) h3, h4.1, fun i hi => ?_⟩
  obtain ⟨r', ver, s, g1, g2, g3, g4⟩ := h4.2 i hi
  exact ⟨r', ver, s, g1, g2, g3, hK.row (by omega) g4⟩
theorem Rnd.get {N : Nat} {H : AH} {v : AV} {l : List (List Int)} (h : Rnd N H v l) : ∃ r ver, v = .slice (some r) 0 l.length ver 1 false ∧ ∀ i (hi : i < l.length), ∃ w, ld H r i ver = some w ∧ Ls H w l[i] := by
  obtain ⟨r1, ver, st, vs, h1, h2, h3, h4⟩ := h
  refine ⟨r1, ver, h2, fun i hi => ?_⟩
  obtain ⟨r', ver', s, g1, g2, g3, g4⟩ := h4.2 i hi
  refine ⟨_, by rw [ld_row h3, g3]; rfl, Ls.row g4 false⟩
theorem Els.push {N r : Nat} {H : AH} {vs : List AV} {l : List (List Int)} (h : Els N r H vs l) {r' ver s : Nat} {m : List Int} (h1 : N ≤ r') (h2 : r' ≠ r) (h3 : H[r']? = some (.row (m.map (.int .i64)) ver s false)) : Els N r H (vs ++ [.slice (some r') 0 m.length ver 1 false]) (l ++ [m]) := by
  refine ⟨by simp [h.1], fun i hi => ?_⟩
  have hvl := h.1
  by_cases hl : i < l.length
  · obtain ⟨a, b, c, g1, g2, g3, g4⟩ := h.2 i hl
    refine ⟨a, b, c, g1, g2, ?_, ?_⟩
    · rw [List.getElem?_append_left (by omega), g3, List.getElem_append_left hl]
    · rw [List.getElem_append_left hl]; exact g4
  · have : i = l.length := by simp at hi; omega
    subst this
    refine ⟨r', ver, s, h1, h2, ?_, ?_⟩
    · rw [List.getElem?_append_right (by omega)]; simp [hvl]
    · simpa using h3
theorem rnd_append {H : AH} {r ver st : Nat} {vs : List AV} {w : AV} {m : Nat} (hr : H[r]? = some (AObj.row vs ver st false)) (hx : w.one = true) (hlen : vs.length < 16777216) :
    aAppend Try.prog (H ++ [AObj.row [w] 0 m false]) 37 37 (.slice (some r) 0 vs.length ver 1 false) (.slice (some H.length) 0 1 0 1 false) = some (.slice (some r) 0 (vs.length + 1) (ver + 1) 1 false, (H ++ [AObj.row [w] 0 m false]).set r (AObj.row (vs ++ [w]) (ver + 1) (min st vs.length) false)) := by
  obtain ⟨e, I, h1, h2, h3, h4, -⟩ := elT_some el37
  have hsrc : aSrc Try.prog (H ++ [AObj.row [w] 0 m false]) 37 1 (.slice (some H.length) 0 1 0 1 false) = some (1, [w]) := by
    cases w <;> simp_all [aSrc, ldn, takeKnown, AV.one]
  have hlt : r < H.length := (List.getElem?_eq_some_iff.1 hr).1
  have hr' : (H ++ [AObj.row [w] 0 m false])[r]? = some (AObj.row vs ver st false) := by rw [List.getElem?_append_left hlt]; exact hr
  have : vs.length + 1 ≤ 16777216 := hlen
  have hin : inPlace (H ++ [AObj.row [w] 0 m false]) r 0 vs.length 1 ver 1 [w] = none := by simp [inPlace, hr']; omega
  unfold aAppend
  simp [h1, h2, h3, h4, hsrc, hx, grow, hr', this, hin]
theorem els_one {N r : Nat} {H : AH} {r' ver s : Nat} {m : List Int} (h1 : N ≤ r') (h2 : r' ≠ r) (h3 : H[r']? = some (.row (m.map (.int .i64)) ver s false)) : Els N r H [.slice (some r') 0 m.length ver 1 false] [m] := by
  have h0 : Els N r H [] [] := ⟨rfl, fun i h => by simp at h⟩
  simpa using h0.push h1 h2 h3
set_option maxRecDepth 100000 in
theorem rround_ac (n : Nat) : ∀ (k : Nat), k ≤ n → n ≤ 10 → ∀ (H : AH) (Q : AV → AH → Prop), (∀ v' H', Rnd H.length H' v' (roundS n k) → Ext H H' → Q v' H') → AC Try.prog 62 [.int .i64 n, .int .i64 k] H Q := by
  induction n with
  | zero =>
    intro k hk hn H Q h
    obtain rfl : k = 0 := by omega
    rw [roundS_zero] at h
    refine L_body 48 Try.func62 rfl rfl ?_
    refine L_reg [0, 1] (fun K hK => ?_)
    simp
    apply hK; clear hK K
    refine L_reg [0, 1, 9] (fun K hK => ?_)
    simp
    apply hK; clear hK K
    refine L_true (by simp) ?_
    refine L_reg [4] (fun K hK => ?_)
    simp
    apply hK; clear hK K
    refine L_ret ⟨.inr rfl, _, rfl, h _ _ ⟨H.length + 1, 0, 1, [.slice (some H.length) 0 0 0 1 false], by omega, rfl, by simp, els_one (m := []) (r' := H.length) (s := 0) (by omega) (by omega) (by simp)⟩ (.push _ _)⟩
  | succ n ih =>
    intro k hk hn H Q h
    refine L_body 48 Try.func62 rfl rfl ?_
    refine L_reg [0, 1] (fun K hK => ?_)
    simp
    apply hK; clear hK K
    refine L_reg [0, 1, 9] (fun K hK => ?_)
    simp
    apply hK; clear hK K
    refine L_dec ((k : Int) = 0) rfl (fun hz => ?_) (fun hz => ?_)
    · obtain rfl : k = 0 := by omega
      rw [roundS_zero] at h
      refine L_reg [4] (fun K hK => ?_)
      simp
      apply hK; clear hK K
      refine L_ret ⟨.inr rfl, _, rfl, h _ _ ⟨H.length + 1, 0, 1, [.slice (some H.length) 0 0 0 1 false], by omega, rfl, by simp, els_one (m := []) (r' := H.length) (s := 0) (by omega) (by omega) (by simp)⟩ (.push _ _)⟩
    · refine L_reg [0, 1, 14] (fun K hK => ?_)
      simp
      apply hK; clear hK K
      refine L_dec ((k : Int) = n + 1) rfl (fun hf => ?_) (fun hf => ?_)
      · obtain rfl : k = n + 1 := by omega
        rw [roundS_full] at h
        refine L_reg [4] (fun K hK => ?_)
        simp [okFn_low]
        refine rall_ac (n + 1) (by omega) H _ (fun v' H1 hO hE => ?_)
        rcases hO with ⟨h1, -⟩ | ⟨r, ver, st, g1, rfl, g3⟩
        · rw [iota_succ] at h1; simp at h1
        simp
        apply hK; clear hK K
        have hrl := lt_of_row g3
        have hle := hE.1
        have g4 : (H1 ++ [AObj.row [.slice (some r) 0 (n + 1) ver 1 false] 0 1 false])[r]? = _ := (Ext.push H1 _).row g3
        refine L_ret ⟨.inr rfl, _, rfl, h _ _ ⟨H1.length, 0, 1, [.slice (some r) 0 (n + 1) ver 1 false], hle, by simp, by simp, by simp, fun i hi => ?_⟩ (hE.trans (.push _ _))⟩
        obtain rfl : i = 0 := by simpa using hi
        exact ⟨r, ver, st, g1, by omega, by simp, by simpa using g4⟩
      · obtain ⟨k, rfl⟩ : ∃ m, k = m + 1 := ⟨k - 1, by omega⟩
        have hkn : k + 1 ≤ n := by omega
        have hF : roundS (n + 1) (k + 1) = roundS n (k + 1) ++ (roundS n k).reverse.map (· ++ [(n : Int)]) := by
          simp only [roundS]
          rw [if_neg (by omega), if_neg (by omega)]; rfl
        rw [hF] at h
        have hl5 := round_le2 (n := n) (k := k + 1) (by omega)
        have hl6 := round_le2 (n := n) (k := k) (by omega)
        have ih5 := ih (k + 1) hkn (by omega)
        have ih6 := ih k (by omega) (by omega)
        have hm6 := roundS_len n k
        generalize roundS n (k + 1) = F5 at *
        generalize roundS n k = F6 at *
        refine L_reg [0, 1, 5] (fun K hK => ?_)
        simp [okFn_low, wrap_i64 (a := (n : Int)) (by omega)]
        refine ih5 H _ (fun v5 H5 hR5 hE5 => ?_)
        simp
        apply hK; clear hK K
        refine L_reg [0, 5, 6] (fun K hK => ?_)
        simp [okFn_low, wrap_i64 (a := (n : Int)) (by omega), wrap_i64 (a := (k : Int)) (by omega)]
        refine ih6 H5 _ (fun v6 H6 hR6 hE6 => ?_)
        simp
        apply hK; clear hK K
        obtain ⟨r5, ver5, st5, vs5, a1, rfl, a3, a4⟩ := hR5
        have hr5 := lt_of_row a3
        obtain ⟨r6, ver6, hv6, -⟩ := hR6.get
        refine L_reg [0, 5, 6, 7] (fun K hK => ?_)
        simp [hv6, wrap_i64 (a := (F6.length : Int) - 1) (by omega)]
        apply hK; clear hK K
        have hK5 : KeepX r5 H5 H6 := (KeepX.refl r5 H5).ext hE6
        refine L_block (L_loopV [5, 7] (fun j vs H' => ∃ (ver st : Nat) (rs : List AV), j ≤ F6.length ∧ H'[r5]? = some (.row rs ver st false) ∧ Els H.length r5 H' rs (F5 ++ (F6.drop j).reverse.map (· ++ [(n : Int)])) ∧ KeepX r5 H6 H' ∧ Ext H H' ∧ vs = [.slice (some r5) 0 rs.length ver 1 false, .int .i64 ((j : Int) - 1)]) F6.length [.slice (some r5) 0 F5.length ver5 1 false, .int .i64 ((F6.length : Int) - 1)] rfl ⟨ver5, st5, vs5, Nat.le_refl _, hE6.row a3, by simpa using a4.keep hK5, .refl _ _, hE5.trans hE6, by rw [a4.1]⟩ ?_)
        rintro j _ H' ⟨ver, st, rs, hj, b1, b2, b3, b4, rfl⟩
        refine L_reg [0, 5, 6, 7, 31] (fun K hK => ?_)
        simp
        apply hK; clear hK K
        refine L_dec (0 ≤ (j : Int) - 1) (by simp) (fun hlt => ?_) (fun hge => L_exit ?_)
        · obtain ⟨j, rfl⟩ : ∃ m, j = m + 1 := ⟨j - 1, by omega⟩
          have hR6' := hR6.keep hr5 b3
          obtain ⟨r6', ver6', hv6', hget⟩ := hR6'.get
          rw [hv6'] at hv6
          obtain ⟨rfl, rfl⟩ : r6' = r6 ∧ ver6' = ver6 := by simpa using hv6
          obtain ⟨w, hw1, hw2⟩ := hget j (by omega)
          have hlen6 : F6[j].length ≤ 16777215 := by rw [hm6 _ (List.getElem_mem _)]; omega
          refine L_block ?_
          have hcp := copy_append (H := H') el22 el22 hw2 (by omega)
          obtain ⟨v1, H1, c1, c2, c3⟩ := hcp
          obtain ⟨v2, H2, d1, d2, d3⟩ := ownF_append c3 el22 el22 (x := .int .i64 (n : Int)) (m := 1) c2 rfl (by simp; omega)
          rcases d2 with ⟨g0, -⟩ | ⟨r', ver', s', g1, rfl, g3⟩
          · simp at g0
          have hr'n : r' ≠ r5 := by have := lt_of_row b1; omega
          have b1' := d3.row b1
          have hap := rnd_append (w := .slice (some r') 0 (F6[j].length + 1) ver' 1 false) (m := 1) b1' rfl (by have := b2.1; simp at this; omega)
          have hK2 : KeepX r5 H' H2 := (KeepX.refl _ _).ext d3
          have hld := (Ext.push H' [AObj.row [] 0 0 false]).ld hw1
          simp only [List.length_append, List.length_map, List.length_singleton] at hap d1 c1
          refine L_reg [0, 5, 6, 7] (fun K hK => ?_)
          simp [c1, d1, hap, hld, show (j : Int) < (F6.length : Int) by omega, wrap_i64 (a := (n : Int)) (by omega)]
          apply hK; clear hK K
          refine L_reg [0, 5, 6, 7] (fun K hK => ?_)
          simp [wrap_i64 (a := (j : Int) - 1) (by omega)]
          apply hK; clear hK K
          have hpush : Ext H2 (H2 ++ [AObj.row [.slice (some r') 0 (F6[j].length + 1) ver' 1 false] 0 1 false]) := .push _ _
          have hK3 := ((hK2.ext hpush).set (.row (rs ++ [.slice (some r') 0 (F6[j].length + 1) ver' 1 false]) (ver + 1) (min st rs.length) false))
          have hK23 := (((KeepX.refl r5 H2).ext hpush).set (.row (rs ++ [.slice (some r') 0 (F6[j].length + 1) ver' 1 false]) (ver + 1) (min st rs.length) false))
          have hb6 := (((b3.ext d3).ext hpush).set (.row (rs ++ [.slice (some r') 0 (F6[j].length + 1) ver' 1 false]) (ver + 1) (min st rs.length) false))
          have hE3 := ((b4.trans d3).trans hpush).set (.row (rs ++ [.slice (some r') 0 (F6[j].length + 1) ver' 1 false]) (ver + 1) (min st rs.length) false) a1
          have hrow5 := get_set (o' := .row (rs ++ [.slice (some r') 0 (F6[j].length + 1) ver' 1 false]) (ver + 1) (min st rs.length) false) ((d3.trans hpush).row b1)
          have hrow' := hK23.row hr'n g3
          generalize (H2 ++ [AObj.row [.slice (some r') 0 (F6[j].length + 1) ver' 1 false] 0 1 false]).set r5 (.row (rs ++ [.slice (some r') 0 (F6[j].length + 1) ver' 1 false]) (ver + 1) (min st rs.length) false) = H3 at *
          have hle' := b4.1
          have hels := (b2.keep hK3).push (r' := r') (m := F6[j] ++ [(n : Int)]) (by omega) hr'n (by simpa using hrow')
          simp only [List.length_append, List.length_singleton] at hels
          refine ⟨j, [.slice (some r5) 0 (rs.length + 1) (ver + 1) 1 false, .int .i64 ((j : Int) - 1)], by omega, by simp, ver + 1, min st rs.length, _, by omega, hrow5, ?_, hb6, hE3, by simp⟩
          have e : F5 ++ (F6.drop j).reverse.map (· ++ [(n : Int)]) = F5 ++ (F6.drop (j + 1)).reverse.map (· ++ [(n : Int)]) ++ [F6[j] ++ [(n : Int)]] := by
            have e0 : F6.drop j = F6[j] :: F6.drop (j + 1) := List.drop_eq_getElem_cons (by omega)
            rw [e0, List.reverse_cons, List.map_append, List.append_assoc]; rfl
          rw [e]; exact hels
        · obtain rfl : j = 0 := by omega
          refine L_reg [4] (fun K hK => ?_)
          simp
          apply hK; clear hK K
          exact L_ret ⟨.inr rfl, _, rfl, h _ _ ⟨r5, ver, st, rs, a1, by rw [b2.1]; simp, b1, by simpa using b2⟩ b4⟩
end Go.Proofs.Ytmoifofihafgmaa

/- The examples that each law ends with. -/
namespace Go.Proofs.Ytmoifofihafgmaa
open Go Go.Proofs.Ytmoifofihafgmaa.AX
theorem works_run : callN (runZ cx 3000) 15 [] [] = some (.bool true, []) := by kernel_rfl
theorem works_ac (H : AH) (Q : AV → AH → Prop) (h : Q (.bool true) H) : AC Try.prog 15 [] H Q := AC_kernZ cx_ok 3000 works_run .nil (.bool _) h
/-- The same context, in which the examples are known. -/
noncomputable def cxw : Cx Try.prog where
  good := goodT
  keep := keepT
  ext f args H := bif Nat.beq f 15 then (match args with | [] => some (.bool true, H) | _ => none) else none
theorem cxw_ok : cxw.Ok where
  mixed := cx_ok.mixed
  ord f h := cx_ok.ord f h
  ext f args H v H' h := by
    simp only [cxw] at h
    cases hf : Nat.beq f 15 with
    | false => rw [hf] at h; simp at h
    | true =>
      have := Nat.eq_of_beq_eq_true hf
      subst this
      rw [hf] at h
      cases args with
      | nil => simp at h; obtain ⟨rfl, rfl⟩ := h; exact works_ac _ _ ⟨rfl, rfl⟩
      | cons a l => simp at h
end Go.Proofs.Ytmoifofihafgmaa

/- A short list is sorted in its own row. -/
namespace Go.Proofs.Ytmoifofihafgmaa
open Go Go.Proofs.Ytmoifofihafgmaa.AX

theorem isNaN_ac (a : Int) (H : AH) (Q : AV → AH → Prop) (h : Q (.bool false) H) : AC Try.prog 98 [.int .i64 a] H Q := by
  refine L_body 6 Try.func98 rfl rfl ?_
  refine L_reg [0] (fun K hK => ?_)
  simp
  apply hK; clear hK K
  refine L_reg [2] (fun K hK => ?_)
  simp
  apply hK; clear hK K
  exact L_ret ⟨.inr rfl, _, rfl, by simpa using h⟩
theorem Less_ac (a b : Int) (H : AH) (Q : AV → AH → Prop) (h : Q (.bool (decide (a < b))) H) : AC Try.prog 107 [.int .i64 a, .int .i64 b] H Q := by
  refine L_body 17 Try.func107 rfl rfl ?_
  refine L_reg [0, 1] (fun K hK => ?_)
  simp
  apply hK; clear hK K
  refine L_reg [4] (fun K hK => ?_)
  simp [okFn_low]
  refine isNaN_ac a _ _ ?_
  simp [pickV]
  apply hK; clear hK K
  exact L_ret ⟨.inr rfl, _, rfl, h⟩
def ordTo (c : List Int) (i j : Nat) : Prop := ∀ p q, p < q → q ≤ i → q ≠ j → c.getD p 0 ≤ c.getD q 0
theorem getD_mid (A B : List Int) (x y : Int) (p : Nat) : (A ++ x :: y :: B).getD p 0 = if p < A.length then A.getD p 0 else if p = A.length then x else if p = A.length + 1 then y else B.getD (p - A.length - 2) 0 := by
  simp only [List.getD_eq_getElem?_getD]
  split
  · rename_i h; rw [List.getElem?_append_left h]
  · rename_i h
    rw [List.getElem?_append_right (by omega)]
    split
    · rename_i h1; simp [h1]
    · split
      · rename_i h1 h2; simp [h2]
      · rename_i h1 h2
        obtain ⟨m, hm⟩ : ∃ m, p - A.length = m + 2 := ⟨p - A.length - 2, by omega⟩
        rw [hm]; simp
theorem ord_step {A B : List Int} {x y : Int} {i : Nat} (h : ordTo (A ++ x :: y :: B) i (A.length + 1)) (hxy : y < x) : ordTo (A ++ y :: x :: B) i A.length := by
  have e1 : ∀ p, p ≠ A.length → p ≠ A.length + 1 → (A ++ y :: x :: B).getD p 0 = (A ++ x :: y :: B).getD p 0 := by
    intro p h1 h2
    rw [getD_mid, getD_mid, if_neg h1, if_neg h2, if_neg h1, if_neg h2]
  have a1 : (A ++ y :: x :: B).getD A.length 0 = y := by simp
  have a2 : (A ++ y :: x :: B).getD (A.length + 1) 0 = x := by rw [getD_mid, if_neg (by omega), if_neg (by omega), if_pos rfl]
  have b1 : (A ++ x :: y :: B).getD A.length 0 = x := by simp
  have b2 : (A ++ x :: y :: B).getD (A.length + 1) 0 = y := by rw [getD_mid, if_neg (by omega), if_neg (by omega), if_pos rfl]
  intro p q hpq hq hqj
  by_cases hq1 : q = A.length + 1
  · subst hq1
    rw [a2]
    by_cases hp1 : p = A.length
    · subst hp1; rw [a1]; omega
    · rw [e1 p hp1 (by omega)]
      have := h p A.length (by omega) (by omega) (by omega)
      rw [b1] at this; exact this
  · rw [e1 q hqj hq1]
    by_cases hp1 : p = A.length
    · subst hp1; rw [a1]
      have := h (A.length + 1) q (by omega) hq hq1
      rw [b2] at this; exact this
    · by_cases hp2 : p = A.length + 1
      · subst hp2; rw [a2]
        have := h A.length q (by omega) hq hq1
        rw [b1] at this; exact this
      · rw [e1 p hp1 hp2]
        exact h p q hpq hq hq1
theorem swap_row {H : AH} {r ver st : Nat} {A B : List Int} {x y : Int} (hr : H[r]? = some (.row ((A ++ x :: y :: B).map (.int .i64)) ver st false)) :
    ∃ H1 H2 s, storeV Try.prog 3 H (.ptr r (A.length + 1) ver) (.int .i64 x) = some (none, H1) ∧ storeV Try.prog 3 H1 (.ptr r A.length ver) (.int .i64 y) = some (none, H2) ∧ H2[r]? = some (.row ((A ++ y :: x :: B).map (.int .i64)) ver s false) ∧ KeepX r H H2 := by
  have h1 := store_row (P := Try.prog) (u := 3) (p := A.length + 1) sc3 (x := .int .i64 x) (y := .int .i64 y) rfl hr (by simp)
  have e1 : ((A ++ x :: y :: B).map (AV.int .i64)).set (A.length + 1) (.int .i64 x) = (A ++ x :: x :: B).map (.int .i64) := by
    simp [List.set_append_right]
  rw [e1] at h1
  have hr1 := get_set (o' := .row ((A ++ x :: x :: B).map (.int .i64)) ver (min st (A.length + 1)) false) hr
  have h2 := store_row (P := Try.prog) (u := 3) (p := A.length) sc3 (x := .int .i64 y) (y := .int .i64 x) rfl hr1 (by simp)
  have e2 : ((A ++ x :: x :: B).map (AV.int .i64)).set A.length (.int .i64 y) = (A ++ y :: x :: B).map (.int .i64) := by
    simp [List.set_append_right]
  rw [e2] at h2
  exact ⟨_, _, _, h1, h2, get_set hr1, ((KeepX.refl r H).set _).set _⟩
theorem split_at {c : List Int} {j : Nat} (h : j + 1 < c.length) : ∃ A x y B, c = A ++ x :: y :: B ∧ A.length = j := by
  refine ⟨c.take j, c[j], c[j + 1], c.drop (j + 2), ?_, by simp; omega⟩
  rw [← List.drop_eq_getElem_cons h, ← List.drop_eq_getElem_cons (by omega), List.take_append_drop]
set_option maxRecDepth 100000 in
theorem insertion_ac (r ver st : Nat) (l : List Int) (H : AH) (Q : AV → AH → Prop) (hr : H[r]? = some (.row (l.map (.int .i64)) ver st false)) (hl : l.length ≤ 1000000)
    (h : ∀ (H' : AH) (m : List Int) (s : Nat), m.Perm l → m.Pairwise (· ≤ ·) → H'[r]? = some (.row (m.map (.int .i64)) ver s false) → KeepX r H H' → Q (.tuple []) H') : AC Try.prog 101 [.slice (some r) 0 l.length ver 1 false, .int .i64 0, .int .i64 l.length] H Q := by
  refine L_body 49 Try.func101 rfl rfl ?_
  refine L_reg [0, 1, 2, 6] (fun K hK => ?_)
  simp [wrap_i64 (a := 1) (by omega)]
  apply hK; clear hK K
  refine L_block (L_loopV [6] (fun k vs H' => ∃ (i : Nat) (c : List Int) (s : Nat), k = l.length - i ∧ 1 ≤ i ∧ i ≤ max 1 l.length ∧ c.Perm l ∧ (∀ p q, p < q → q < i → c.getD p 0 ≤ c.getD q 0) ∧ vs = [.int .i64 i] ∧ H'[r]? = some (.row (c.map (.int .i64)) ver s false) ∧ KeepX r H H') _ [.int .i64 (1 : Nat)] rfl ⟨1, l, st, rfl, by omega, by omega, .refl l, fun p q h1 h2 => by omega, rfl, hr, .refl r H⟩ ?_)
  rintro k _ H1 ⟨i, c, s, rfl, hi1, hi2, hp, ho, rfl, hrow, hK⟩
  refine L_reg [0, 1, 2, 6, 12] (fun K hK => ?_)
  simp
  apply hK; clear hK K
  refine L_dec (i < l.length) (by simp) (fun hlt => ?_) (fun hge => L_exit ?_)
  · refine L_block ?_
    refine L_reg [0, 1, 2, 6, 7] (fun K hK => ?_)
    simp
    apply hK; clear hK K
    refine L_block (L_loopV [7] (fun k vs H' => ∃ (j : Nat) (c : List Int) (s : Nat), k = j ∧ j ≤ i ∧ c.Perm l ∧ ordTo c i j ∧ vs = [.int .i64 j] ∧ H'[r]? = some (.row (c.map (.int .i64)) ver s false) ∧ KeepX r H H') _ [.int .i64 i] rfl ⟨i, c, s, rfl, by omega, hp, fun p q h1 h2 h3 => ho p q h1 (by omega), rfl, hrow, hK⟩ ?_)
    clear hp ho hrow hK c s H1
    rintro k _ H1 ⟨j, c, s, rfl, hj, hp, ho, rfl, hrow, hK⟩
    have hcl := hp.length_eq
    cases k with
    | zero =>
      refine L_regT mixed [0, 1, 2, 6, 7, 30] (by kernel_rfl) (fun K hK => ?_)
      simp [pickV]
      apply hK; clear hK K
      refine L_false (by simp) (L_exit ?_)
      refine L_reg [0, 1, 2, 6] (fun K hK => ?_)
      simp [wrap_i64 (a := (i : Int) + 1) (by omega)]
      apply hK; clear hK K
      exact ⟨l.length - (i + 1), [.int .i64 (i + 1 : Nat)], by omega, by simp, i + 1, c, s, rfl, by omega, by omega, hp, fun p q h1 h2 => ho p q h1 (by omega) (by omega), rfl, hrow, hK⟩
    | succ j =>
      obtain ⟨A, x, y, B, rfl, hA⟩ := split_at (c := c) (j := j) (by omega)
      subst hA
      have hx : ld H1 r A.length ver = some (.int .i64 x) := by rw [ld_row hrow]; simp
      have hy : ld H1 r (A.length + 1) ver = some (.int .i64 y) := by rw [ld_row hrow]; simp
      have hw : IntKind.i64.wrap (A.length : Int) = (A.length : Int) := wrap_i64 (by omega)
      have hi1' : ((A.length : Int) + 1).toNat = A.length + 1 := by omega
      have g1 : (0 : Int) ≤ (A.length : Int) + 1 := by omega
      have g2 : (A.length : Int) + 1 < (l.length : Int) := by omega
      have g3 : A.length < l.length := by omega
      refine L_regT mixed [0, 1, 2, 6, 7, 30] (by kernel_rfl) (fun K hK => ?_)
      simp [okFn_low, hw, hi1', g1, g2, g3, hx, hy, show (0 : Int) < (A.length : Int) + 1 by omega]
      refine exC_mk (fun Q hQ => Less_ac y x H1 Q hQ) ?_
      simp [pickV]
      apply hK; clear hK K
      refine L_dec (y < x) (by simp) (fun hyx => ?_) (fun hyx => L_exit ?_)
      · obtain ⟨H2, H3, s3, e1, e2, e3, e4⟩ := swap_row hrow
        refine L_block ?_
        refine L_regT mixed [0, 1, 2, 6, 7] (by kernel_rfl) (fun K hK => ?_)
        simp [hw, hi1', g1, g2, g3, hx, hy, e1, e2]
        apply hK; clear hK K
        refine L_reg [0, 1, 2, 6, 7] (fun K hK => ?_)
        simp [hw]
        apply hK; clear hK K
        refine ⟨A.length, [.int .i64 (A.length : Nat)], by omega, by simp, A.length, A ++ y :: x :: B, s3, rfl, by omega, ?_, ord_step ho hyx, rfl, e3, ?_⟩
        · exact (List.Perm.append_left A (List.Perm.swap x y B)).trans hp
        · exact ⟨Nat.le_trans hK.1 e4.1, fun j h1 h2 => by rw [e4.2 j h1 (by have := hK.1; omega), hK.2 j h1 h2]⟩
      · refine L_reg [0, 1, 2, 6] (fun K hK => ?_)
        simp [wrap_i64 (a := (i : Int) + 1) (by omega)]
        apply hK; clear hK K
        refine ⟨l.length - (i + 1), [.int .i64 (i + 1 : Nat)], by omega, by simp, i + 1, _, s, rfl, by omega, by omega, hp, fun p q h1 h2 => ?_, rfl, hrow, hK⟩
        by_cases hq : q = A.length + 1
        · subst hq
          by_cases hpa : p = A.length
          · subst hpa; rw [getD_mid, getD_mid, if_neg (by omega), if_pos rfl, if_neg (by omega), if_neg (by omega), if_pos rfl]; omega
          · have h3 := ho p A.length (by omega) (by omega) (by omega)
            have e1 : (A ++ x :: y :: B).getD A.length 0 = x := by simp
            have e2 : (A ++ x :: y :: B).getD (A.length + 1) 0 = y := by rw [getD_mid, if_neg (by omega), if_neg (by omega), if_pos rfl]
            rw [e1] at h3; rw [e2]; omega
        · exact ho p q h1 (by omega) hq
  · have hc := hp.length_eq
    refine ⟨.inl rfl, _, rfl, h H1 c s hp ?_ hrow hK⟩
    rw [List.pairwise_iff_getElem]
    intro p q h1 h2 h3
    have := ho p q h3 (by omega)
    simpa [List.getD_eq_getElem?_getD, h1, h2] using this
end Go.Proofs.Ytmoifofihafgmaa

/- Ways from a blend to another one: what they hold. -/
namespace Go.Proofs.Ytmoifofihafgmaa
open Go Go.Proofs.Ytmoifofihafgmaa.AX

theorem sorted_ext : ∀ {l m : List Int}, l.Pairwise (· < ·) → m.Pairwise (· < ·) → (∀ x, x ∈ l ↔ x ∈ m) → l = m
  | [], [], _, _, _ => rfl
  | [], y :: m, _, _, h => by have := (h y).2 (by simp); simp at this
  | x :: l, [], _, _, h => by have := (h x).1 (by simp); simp at this
  | x :: l, y :: m, hl, hm, h => by
    obtain ⟨a1, a2⟩ := List.pairwise_cons.1 hl
    obtain ⟨b1, b2⟩ := List.pairwise_cons.1 hm
    have e : x = y := by
      rcases List.mem_cons.1 ((h x).1 (by simp)) with e | hx
      · exact e
      · rcases List.mem_cons.1 ((h y).2 (by simp)) with e | hy
        · exact e.symm
        · have := a1 y hy; have := b1 x hx; omega
    subst e
    have := sorted_ext a2 b2 (fun z => by
      have := h z
      simp only [List.mem_cons] at this
      constructor
      · intro hz
        rcases this.1 (.inr hz) with e | e
        · have := a1 z hz; omega
        · exact e
      · intro hz
        rcases this.2 (.inr hz) with e | e
        · have := b1 z hz; omega
        · exact e)
    rw [this]
theorem mem_lack {l o : List Int} {x : Int} : x ∈ lack l o ↔ x ∈ l ∧ x ∉ o := by simp [lack]
theorem lack_sorted {l o : List Int} (h : l.Pairwise (· < ·)) : (lack l o).Pairwise (· < ·) := h.sublist List.filter_sublist
theorem lack_len {l m : List Int} (hl : l.Pairwise (· < ·)) (hm : m.Pairwise (· < ·)) (h : l.length = m.length) : (lack l m).length = (lack m l).length := by
  have e : l.filter (fun y => decide (y ∈ m)) = m.filter (fun y => decide (y ∈ l)) := by
    refine sorted_ext (hl.sublist List.filter_sublist) (hm.sublist List.filter_sublist) fun x => ?_
    simp [and_comm]
  have part : ∀ (l m : List Int), (l.filter fun y => decide (y ∈ m)).length + (lack l m).length = l.length := by
    intro l m
    unfold lack
    induction l with
    | nil => rfl
    | cons x l ih => by_cases hx : x ∈ m <;> simp [hx] at ih ⊢ <;> omega
  have h1 := part l m
  have h2 := part m l
  rw [e] at h1
  omega
/-- A blend in which a leaf went out and another one came in. -/
def exS (n : Nat) (l : List Int) (out inn : Int) : List Int := (iota n).filter fun x => x == inn || x != out && decide (x ∈ l)
theorem exS_okb (n : Nat) (l : List Int) (out inn : Int) : Okb n (exS n l out inn) := by
  obtain ⟨h1, h2⟩ := okb_iota n
  exact ⟨fun x hx => h1 x (List.mem_filter.1 hx).1, h2.sublist List.filter_sublist⟩
theorem mem_iota {n : Nat} {x : Int} : x ∈ iota n ↔ 0 ≤ x ∧ x < n := by
  constructor
  · exact fun h => (okb_iota n).1 x h
  · rintro ⟨h1, h2⟩
    simp only [iota, List.mem_map, List.mem_range]
    exact ⟨x.toNat, by omega, by omega⟩
theorem mem_exS {n : Nat} {l : List Int} (hl : Okb n l) {out inn : Int} (hi : 0 ≤ inn ∧ inn < n) {x : Int} : x ∈ exS n l out inn ↔ x = inn ∨ (x ≠ out ∧ x ∈ l) := by
  unfold exS
  rw [List.mem_filter, mem_iota]
  simp only [Bool.or_eq_true, beq_iff_eq, Bool.and_eq_true, bne_iff_ne, decide_eq_true_eq]
  constructor
  · exact fun h => h.2
  · intro h
    refine ⟨?_, h⟩
    rcases h with rfl | ⟨-, h⟩
    · exact hi
    · exact hl.1 x h
theorem exS_ne (n : Nat) (l : List Int) (out inn : Int) (hl : Okb n l) (hi : 0 ≤ inn ∧ inn < n) : exS n l out inn ≠ [] := by
  intro h
  have := (mem_exS (out := out) hl hi (x := inn)).2 (.inl rfl)
  rw [h] at this; simp at this
/-- What is sorted, of the same leaves. -/
theorem sort_exS {n : Nat} {l m : List Int} (hl : Okb n l) {k : Nat} {out inn : Int} (hk : l[k]? = some out) (hi : 0 ≤ inn ∧ inn < n) (hin : inn ∉ l) (hp : m.Perm (l.set k inn)) (hs : m.Pairwise (· ≤ ·)) : m = exS n l out inn := by
  obtain ⟨hkl, hkx⟩ := List.getElem?_eq_some_iff.1 hk
  have hnd : l.Pairwise (· ≠ ·) := hl.2.imp (by omega)
  rw [List.pairwise_iff_getElem] at hnd
  have hnd2 : (l.set k inn).Pairwise (· ≠ ·) := by
    rw [List.pairwise_iff_getElem]
    intro i j h1 h2 h3
    simp only [List.length_set] at h1 h2
    rw [List.getElem_set, List.getElem_set]
    split
    · rename_i e
      rw [if_neg (by omega)]
      intro e2; exact hin (by rw [e2]; exact List.getElem_mem _)
    · split
      · intro e2; exact hin (by rw [← e2]; exact List.getElem_mem _)
      · exact hnd i j h1 h2 h3
  have hnd3 : m.Pairwise (· ≠ ·) := (hp.pairwise_iff (fun h => Ne.symm h)).2 hnd2
  have hlt : m.Pairwise (· < ·) := by
    have := hs.and hnd3
    exact this.imp (fun h => by omega)
  refine sorted_ext hlt (exS_okb n l out inn).2 fun x => ?_
  rw [hp.mem_iff, mem_exS hl hi]
  constructor
  · intro hx
    obtain ⟨i, h1, h2⟩ := List.getElem_of_mem hx
    simp only [List.length_set] at h1
    rw [List.getElem_set] at h2
    split at h2
    · exact .inl h2.symm
    · rename_i hik
      right
      refine ⟨?_, by rw [← h2]; exact List.getElem_mem _⟩
      rintro rfl
      rw [← hkx] at h2
      rcases Nat.lt_or_gt_of_ne hik with h | h
      · exact hnd k i hkl h1 h h2.symm
      · exact hnd i k h1 hkl h h2
  · rintro (rfl | ⟨h1, h2⟩)
    · exact List.mem_set hkl ..
    · obtain ⟨i, h3, h4⟩ := List.getElem_of_mem h2
      have hik : k ≠ i := by rintro rfl; exact h1 (by rw [← h4, hkx])
      have : (l.set k inn)[i]'(by simpa using h3) = x := by rw [List.getElem_set_ne hik]; exact h4
      rw [← this]; exact List.getElem_mem _

/-- The blends on the way, by the leaves that go out and come in. -/
def wayS (n : Nat) : List Int → List Int → List Int → List (List Int)
  | a, o :: os, i :: is => a :: wayS n (exS n a o i) os is
  | a, _, _ => [a]
theorem lack_step {n : Nat} {a b : List Int} (ha : Okb n a) (hb : Okb n b) {o i : Int} {os is : List Int} (h1 : lack a b = o :: os) (h2 : lack b a = i :: is) : lack (exS n a o i) b = os ∧ lack b (exS n a o i) = is := by
  have ho : o ∈ a ∧ o ∉ b := mem_lack.1 (by rw [h1]; simp)
  have hi : i ∈ b ∧ i ∉ a := mem_lack.1 (by rw [h2]; simp)
  have hir := hb.1 i hi.1
  have s1 := lack_sorted (o := b) ha.2
  have s2 := lack_sorted (o := a) hb.2
  have m1 := fun x => (mem_lack (l := a) (o := b) (x := x))
  have m2 := fun x => (mem_lack (l := b) (o := a) (x := x))
  rw [h1] at s1 m1
  rw [h2] at s2 m2
  obtain ⟨c1, c2⟩ := List.pairwise_cons.1 s1
  obtain ⟨d1, d2⟩ := List.pairwise_cons.1 s2
  constructor
  · refine sorted_ext (lack_sorted (exS_okb n a o i).2) c2 fun x => ?_
    rw [mem_lack, mem_exS ha hir]
    have := m1 x
    simp only [List.mem_cons] at this
    constructor
    · rintro ⟨rfl | ⟨g1, g2⟩, g3⟩
      · exact absurd hi.1 g3
      · rcases this.2 ⟨g2, g3⟩ with e | e
        · exact absurd e g1
        · exact e
    · intro hx
      have g := this.1 (.inr hx)
      exact ⟨.inr ⟨by have := c1 x hx; omega, g.1⟩, g.2⟩
  · refine sorted_ext (lack_sorted hb.2) d2 fun x => ?_
    rw [mem_lack, mem_exS ha hir]
    have := m2 x
    simp only [List.mem_cons] at this
    constructor
    · rintro ⟨g1, g2⟩
      have g3 : x ≠ i := fun e => g2 (.inl e)
      have g4 : x ∉ a := fun e => g2 (.inr ⟨fun e2 => ho.2 (e2 ▸ g1), e⟩)
      rcases this.2 ⟨g1, g4⟩ with e | e
      · exact absurd e g3
      · exact e
    · intro hx
      have g := this.1 (.inr hx)
      refine ⟨g.1, ?_⟩
      rintro (e | ⟨-, e⟩)
      · have := d1 x hx; omega
      · exact g.2 e
theorem way_end {n : Nat} {a b : List Int} (ha : Okb n a) (hb : Okb n b) (h1 : lack a b = []) (h2 : lack b a = []) : a = b := by
  refine sorted_ext ha.2 hb.2 fun x => ?_
  have m1 := (mem_lack (l := a) (o := b) (x := x))
  have m2 := (mem_lack (l := b) (o := a) (x := x))
  rw [h1] at m1; rw [h2] at m2
  simp at m1 m2
  exact ⟨m1, m2⟩
theorem lack_self (a : List Int) : lack a a = [] := by simp [lack]
end Go.Proofs.Ytmoifofihafgmaa

/- A leaf goes out and another one comes in: the program's way, and the reference's. -/
namespace Go.Proofs.Ytmoifofihafgmaa
open Go Go.Proofs.Ytmoifofihafgmaa.AX

def lenS (n : Nat) : Int := if n = 0 then 0 else if n = 1 then 1 else if n < 4 then 2 else if n < 8 then 3 else 4
theorem len0 : callN (runZ cx 300) 91 [.int .u64 0] [] = some (.int .i64 0, []) := by kernel_rfl
theorem len1 : callN (runZ cx 300) 91 [.int .u64 1] [] = some (.int .i64 1, []) := by kernel_rfl
theorem len2 : callN (runZ cx 300) 91 [.int .u64 2] [] = some (.int .i64 2, []) := by kernel_rfl
theorem len3 : callN (runZ cx 300) 91 [.int .u64 3] [] = some (.int .i64 2, []) := by kernel_rfl
theorem len4 : callN (runZ cx 300) 91 [.int .u64 4] [] = some (.int .i64 3, []) := by kernel_rfl
theorem len5 : callN (runZ cx 300) 91 [.int .u64 5] [] = some (.int .i64 3, []) := by kernel_rfl
theorem len6 : callN (runZ cx 300) 91 [.int .u64 6] [] = some (.int .i64 3, []) := by kernel_rfl
theorem len7 : callN (runZ cx 300) 91 [.int .u64 7] [] = some (.int .i64 3, []) := by kernel_rfl
theorem len8 : callN (runZ cx 300) 91 [.int .u64 8] [] = some (.int .i64 4, []) := by kernel_rfl
theorem len9 : callN (runZ cx 300) 91 [.int .u64 9] [] = some (.int .i64 4, []) := by kernel_rfl
theorem len10 : callN (runZ cx 300) 91 [.int .u64 10] [] = some (.int .i64 4, []) := by kernel_rfl
theorem len11 : callN (runZ cx 300) 91 [.int .u64 11] [] = some (.int .i64 4, []) := by kernel_rfl
theorem len12 : callN (runZ cx 300) 91 [.int .u64 12] [] = some (.int .i64 4, []) := by kernel_rfl
set_option maxRecDepth 100000 in
theorem Len_ac (n : Nat) (hn : n ≤ 12) (H : AH) (Q : AV → AH → Prop) (h : Q (.int .i64 (lenS n)) H) : AC Try.prog 91 [.int .u64 n] H Q := by
  have hc : n = 0 ∨ n = 1 ∨ n = 2 ∨ n = 3 ∨ n = 4 ∨ n = 5 ∨ n = 6 ∨ n = 7 ∨ n = 8 ∨ n = 9 ∨ n = 10 ∨ n = 11 ∨ n = 12 := by omega
  rcases hc with rfl | rfl | rfl | rfl | rfl | rfl | rfl | rfl | rfl | rfl | rfl | rfl | rfl
  · exact AC_kernZ cx_ok 300 len0 (.cons (.int _ _) .nil) (.int _ _) h
  · exact AC_kernZ cx_ok 300 len1 (.cons (.int _ _) .nil) (.int _ _) h
  · exact AC_kernZ cx_ok 300 len2 (.cons (.int _ _) .nil) (.int _ _) h
  · exact AC_kernZ cx_ok 300 len3 (.cons (.int _ _) .nil) (.int _ _) h
  · exact AC_kernZ cx_ok 300 len4 (.cons (.int _ _) .nil) (.int _ _) h
  · exact AC_kernZ cx_ok 300 len5 (.cons (.int _ _) .nil) (.int _ _) h
  · exact AC_kernZ cx_ok 300 len6 (.cons (.int _ _) .nil) (.int _ _) h
  · exact AC_kernZ cx_ok 300 len7 (.cons (.int _ _) .nil) (.int _ _) h
  · exact AC_kernZ cx_ok 300 len8 (.cons (.int _ _) .nil) (.int _ _) h
  · exact AC_kernZ cx_ok 300 len9 (.cons (.int _ _) .nil) (.int _ _) h
  · exact AC_kernZ cx_ok 300 len10 (.cons (.int _ _) .nil) (.int _ _) h
  · exact AC_kernZ cx_ok 300 len11 (.cons (.int _ _) .nil) (.int _ _) h
  · exact AC_kernZ cx_ok 300 len12 (.cons (.int _ _) .nil) (.int _ _) h
theorem conv106 (n : Nat) (hn : n ≤ 1000) : aConv Try.prog 3 106 (.int .i64 n) = some (.int .u64 n) := by
  rw [cv_int (by kernel_rfl) (by kernel_rfl) n, wrap_u64 (by omega)]
set_option maxRecDepth 100000 in
theorem Sort_ac (r ver st : Nat) (l : List Int) (H : AH) (Q : AV → AH → Prop) (hr : H[r]? = some (.row (l.map (.int .i64)) ver st false)) (hl : l.length ≤ 12)
    (h : ∀ (H' : AH) (m : List Int) (s : Nat), m.Perm l → m.Pairwise (· ≤ ·) → H'[r]? = some (.row (m.map (.int .i64)) ver s false) → KeepX r H H' → Q (.tuple []) H') : AC Try.prog 56 [.slice (some r) 0 l.length ver 1 false] H Q := by
  have hpdq : ∀ (k : Int) (Q : AV → AH → Prop), (∀ (H' : AH) (m : List Int) (s : Nat), m.Perm l → m.Pairwise (· ≤ ·) → H'[r]? = some (.row (m.map (.int .i64)) ver s false) → KeepX r H H' → Q (.tuple []) H') → AC Try.prog 90 [.slice (some r) 0 l.length ver 1 false, .int .i64 0, .int .i64 l.length, .int .i64 k] H Q := by
    intro k Q h
    refine L_body 134 Try.func90 rfl rfl ?_
    refine L_reg [0, 1, 2, 3, 8] (fun K hK => ?_)
    simp
    apply hK; clear hK K
    refine L_reg [0, 1, 2, 3, 8, 9] (fun K hK => ?_)
    simp
    apply hK; clear hK K
    refine L_block (L_loopV [1, 2, 3, 8, 9] (fun (_ : Nat) vs H' => vs = [.int .i64 0, .int .i64 l.length, .int .i64 k, .bool true, .bool true] ∧ H = H') 0 _ rfl ⟨rfl, rfl⟩ ?_)
    rintro _ _ _ ⟨rfl, rfl⟩
    refine L_block ?_
    refine L_reg [0, 1, 2, 3, 8, 9, 10] (fun K hK => ?_)
    simp [wrap_i64 (a := (l.length : Int)) (by omega)]
    apply hK; clear hK K
    refine L_reg [0, 1, 2, 3, 8, 9, 10, 23] (fun K hK => ?_)
    simp
    apply hK; clear hK K
    refine L_true (by simp; omega) ?_
    refine L_reg [] (fun K hK => ?_)
    simp [okFn_low]
    refine insertion_ac r ver st l H _ hr (by omega) (fun H3 m s p1 p2 p3 p4 => ?_)
    simp
    apply hK; clear hK K
    exact L_ret ⟨.inr rfl, _, rfl, h H3 m s p1 p2 p3 p4⟩
  refine L_body 11 Try.func56 rfl rfl ?_
  refine L_reg [0, 2] (fun K hK => ?_)
  simp
  apply hK; clear hK K
  refine L_reg [] (fun K hK => ?_)
  simp [okFn_low, conv106 l.length (by omega)]
  refine Len_ac l.length hl H _ ?_
  simp [okFn_low]
  refine hpdq _ _ (fun H3 m s p1 p2 p3 p4 => ?_)
  simp
  apply hK; clear hK K
  exact ⟨.inl rfl, _, rfl, h H3 m s p1 p2 p3 p4⟩
set_option maxRecDepth 100000 in
theorem exchange_ac (n : Nat) (hn : n ≤ 10) (v : AV) (l : List Int) (out inn : Int) (H : AH) (Q : AV → AH → Prop) (hl : Okb n l) (ho : out ∈ l) (hi : 0 ≤ inn ∧ inn < n) (hin : inn ∉ l) (hv : Ls H v l) (h : ∀ v' H', OwnF H.length H' v' ((exS n l out inn).map (.int .i64)) → Ext H H' → Q v' H') : AC Try.prog 74 [v, .int .i64 out, .int .i64 inn] H Q := by
  have hlen := okb_len hl
  refine L_body 19 Try.func74 rfl rfl ?_
  refine L_reg [0, 1, 2] (fun K hK => ?_)
  simp
  apply hK; clear hK K
  refine L_reg [1, 2, 7] (fun K hK => ?_)
  simp [okFn_low]
  refine kept_ac v l H _ (by omega) hv (fun w H1 hO hE => ?_)
  rcases hO with ⟨h0, -⟩ | ⟨r, ver, st, g1, rfl, g3⟩
  · obtain rfl : l = [] := by simpa using h0
    simp at ho
  simp
  apply hK; clear hK K
  have hL1 : Ls H1 (.slice (some r) 0 l.length ver 1 false) l := Ls.row g3 false
  have hix := ixS_spec (fun y => decide (out = y)) l 0
  rcases hix with ⟨-, h2⟩ | ⟨k, hk, h1, h2, -⟩
  · have := h2 out ho; simp at this
  have hko : l[k]? = some out := by rw [List.getElem?_eq_getElem hk]; simpa [eq_comm] using h2
  have hst := store_row (P := Try.prog) (u := 3) (p := k) sc3 (x := .int .i64 inn) (y := .int .i64 l[k]) rfl g3 (by rw [List.getElem?_map, List.getElem?_eq_getElem hk]; rfl)
  rw [← List.map_set] at hst
  have hr2 := get_set (o' := .row ((l.set k inn).map (.int .i64)) ver (min st k) false) g3
  have hE2 := hE.set (.row ((l.set k inn).map (.int .i64)) ver (min st k) false) g1
  generalize hH2 : H1.set r (.row ((l.set k inn).map (.int .i64)) ver (min st k) false) = H2 at hst hr2 hE2
  refine L_reg [7] (fun K hK => ?_)
  simp [okFn_low]
  refine Index_ac _ l out _ _ (by omega) hL1 ?_
  simp [h1, hk, hst]
  apply hK; clear hK K
  have hll : (l.set k inn).length = l.length := by simp
  have hsort := Sort_ac r ver (min st k) (l.set k inn) H2
  rw [hll] at hsort
  refine L_reg [7] (fun K hK => ?_)
  simp [okFn_low]
  refine hsort _ hr2 (by omega) (fun H3 m s p1 p2 p3 p4 => ?_)
  simp
  apply hK; clear hK K
  refine L_reg [6] (fun K hK => ?_)
  simp
  apply hK; clear hK K
  have hm := sort_exS hl hko hi hin p1 p2
  have hml : m.length = l.length := by rw [p1.length_eq, hll]
  refine L_ret ⟨.inr rfl, _, rfl, h _ _ (.inr ⟨r, ver, s, g1, by rw [← hm]; simp [hml], by rw [← hm]; exact p3⟩) ⟨Nat.le_trans hE2.1 p4.1, fun j hj => ?_⟩⟩
  have hle := hE.1
  have hll2 := hE2.1
  rw [p4.2 j (by omega) (by omega)]; exact hE2.2 j hj
set_option maxRecDepth 100000 in
theorem exchanged_ac (n : Nat) (hn : n ≤ 10) (v : AV) (l : List Int) (out inn : Int) (H : AH) (Q : AV → AH → Prop) (hl : l.length ≤ 1000000) (hv : Ls H v l) (h : ∀ v' H', OwnF H.length H' v' ((exS n l out inn).map (.int .i64)) → Ext H H' → Q v' H') : AC Try.prog 75 [.int .i64 n, v, .int .i64 out, .int .i64 inn] H Q := by
  refine L_body 34 Try.func75 rfl rfl ?_
  refine L_reg [0, 1, 2, 3] (fun K hK => ?_)
  simp
  apply hK; clear hK K
  refine L_reg [0, 1, 2, 3, 9] (fun K hK => ?_)
  simp
  apply hK; clear hK K
  refine L_reg [0, 1, 2, 3, 9, 10] (fun K hK => ?_)
  simp
  apply hK; clear hK K
  refine L_block (L_loopV [9, 10] (fun k vs H' => ∃ (i : Nat) (w : AV), k = n - i ∧ i ≤ n ∧ OwnF H.length H' w ((exS i l out inn).map (.int .i64)) ∧ Ext H H' ∧ vs = [w, .int .i64 i]) _ [.slice none 0 0 0 1 false, .int .i64 (0 : Nat)] rfl ⟨0, _, rfl, by omega, .nil _ _, .refl H, rfl⟩ ?_)
  rintro k _ H1 ⟨i, w, rfl, hi, hO, hE, rfl⟩
  refine L_reg [0, 1, 2, 3, 9, 10, 13] (fun K hK => ?_)
  simp
  apply hK; clear hK K
  refine L_dec (i < n) (by simp) (fun hlt => ?_) (fun hge => L_exit ?_)
  · have hs : exS (i + 1) l out inn = exS i l out inn ++ if ((i : Int) == inn || (i : Int) != out && decide ((i : Int) ∈ l)) = true then [(i : Int)] else [] := by
      unfold exS
      rw [iota_succ, List.filter_append]
      congr 1
      by_cases hb : ((i : Int) == inn || (i : Int) != out && decide ((i : Int) ∈ l)) = true
      · rw [if_pos hb, List.filter_cons, if_pos hb]; rfl
      · rw [if_neg hb, List.filter_cons, if_neg hb]; rfl
    have hlen : (exS i l out inn).length ≤ i := by
      unfold exS
      exact Nat.le_trans (List.length_filter_le _ _) (by simp)
    refine L_block ?_
    have more : ((i : Int) == inn || (i : Int) != out && decide ((i : Int) ∈ l)) = true → ∃ v' H', aAppend Try.prog (H1 ++ [.row [.int .i64 i] 0 1 false]) 22 22 w (.slice (some H1.length) 0 1 0 1 false) = some (v', H') ∧ OwnF H.length H' v' ((exS (i + 1) l out inn).map (.int .i64)) ∧ Ext H H' := by
      intro hb
      rw [hs, if_pos hb, List.map_append]
      exact ownF_append hE el22 el22 (x := .int .i64 (i : Int)) (m := 1) hO rfl (by simp; omega)
    have less : ((i : Int) == inn || (i : Int) != out && decide ((i : Int) ∈ l)) = false → exS (i + 1) l out inn = exS i l out inn := by
      intro hb; rw [hs, hb]; simp
    by_cases h1 : (i : Int) = inn
    · refine L_reg [0, 1, 2, 3, 9, 10, 28] (fun K hK => ?_)
      simp [pickV, show ((i : Int) == inn) = true by simpa using h1]
      apply hK; clear hK K
      refine L_true (by simp) ?_
      obtain ⟨v', H', he, hO', hE'⟩ := more (by simp [h1])
      refine L_reg [0, 1, 2, 3, 9, 10] (fun K hK => ?_)
      simp [he]
      apply hK; clear hK K
      refine L_reg [0, 1, 2, 3, 9, 10] (fun K hK => ?_)
      simp [wrap_i64 (a := (i : Int) + 1) (by omega)]
      apply hK; clear hK K
      exact ⟨n - (i + 1), [v', .int .i64 (i + 1 : Nat)], by omega, by simp, i + 1, v', rfl, by omega, hO', hE', rfl⟩
    · have b1 : ((i : Int) == inn) = false := by simpa using h1
      by_cases h2 : (i : Int) = out
      · refine L_reg [0, 1, 2, 3, 9, 10, 28] (fun K hK => ?_)
        simp [pickV, b1, show ((i : Int) != out) = false by simpa using h2]
        apply hK; clear hK K
        refine L_false (by simp) ?_
        refine L_reg [0, 1, 2, 3, 9, 10] (fun K hK => ?_)
        simp [wrap_i64 (a := (i : Int) + 1) (by omega)]
        apply hK; clear hK K
        exact ⟨n - (i + 1), [w, .int .i64 (i + 1 : Nat)], by omega, by simp, i + 1, w, rfl, by omega, by rw [less (by rw [b1]; simp [h2])]; exact hO, hE, rfl⟩
      · have b2 : ((i : Int) != out) = true := by simpa using h2
        refine L_reg [0, 1, 2, 3, 9, 10, 28] (fun K hK => ?_)
        simp [okFn_low, b1, b2]
        refine has_ac v l i H1 _ hl (hv.ext hE) ?_
        simp [pickV]
        apply hK; clear hK K
        by_cases h3 : (i : Int) ∈ l
        · refine L_true (by simp [h3]) ?_
          obtain ⟨v', H', he, hO', hE'⟩ := more (by simp [h2, h3])
          refine L_reg [0, 1, 2, 3, 9, 10] (fun K hK => ?_)
          simp [he]
          apply hK; clear hK K
          refine L_reg [0, 1, 2, 3, 9, 10] (fun K hK => ?_)
          simp [wrap_i64 (a := (i : Int) + 1) (by omega)]
          apply hK; clear hK K
          exact ⟨n - (i + 1), [v', .int .i64 (i + 1 : Nat)], by omega, by simp, i + 1, v', rfl, by omega, hO', hE', rfl⟩
        · refine L_false (by simp [h3]) ?_
          refine L_reg [0, 1, 2, 3, 9, 10] (fun K hK => ?_)
          simp [wrap_i64 (a := (i : Int) + 1) (by omega)]
          apply hK; clear hK K
          exact ⟨n - (i + 1), [w, .int .i64 (i + 1 : Nat)], by omega, by simp, i + 1, w, rfl, by omega, by rw [less (by rw [b1]; simp [h3])]; exact hO, hE, rfl⟩
  · obtain rfl : i = n := by omega
    refine L_reg [8] (fun K hK => ?_)
    simp
    apply hK; clear hK K
    exact L_ret ⟨.inr rfl, _, rfl, h _ _ hO hE⟩
end Go.Proofs.Ytmoifofihafgmaa
