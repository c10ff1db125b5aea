/- What the steps ask of the types of this program. -/
import Derived.Test.YtjldfcfomiopfaaDoorBase
import Derived.Test.YtjldfcfomiopfaaDoorAxO
namespace Go.Proofs.YtjldfcfomiopfaaDoor
open Go Go.Proofs.YtjldfcfomiopfaaDoor.AX
@[simp] theorem len22 (r : Option Nat) (off len ver sz : Nat) (full : Bool) : aLen Tryd.prog 22 (.slice r off len ver sz full) = some (.int .i64 len) := len_sl (n := 2) (by kernel_rfl) ..
@[simp] theorem ixa22 (r off len ver : Nat) (full : Bool) (k : IntKind) (i : Int) : aIndexAddr Tryd.prog 22 (.slice (some r) off len ver 2 full) (.int k i) = if 0 ≤ i ∧ i < len then some (.ptr r (off + i.toNat * 2) ver) else none := ixa_sl (by kernel_rfl) ..
@[simp] theorem len23 (r : Option Nat) (off len ver sz : Nat) (full : Bool) : aLen Tryd.prog 23 (.slice r off len ver sz full) = some (.int .i64 len) := len_sl (n := 1) (by kernel_rfl) ..
@[simp] theorem ixa23 (r off len ver : Nat) (full : Bool) (k : IntKind) (i : Int) : aIndexAddr Tryd.prog 23 (.slice (some r) off len ver 1 full) (.int k i) = if 0 ≤ i ∧ i < len then some (.ptr r (off + i.toNat * 1) ver) else none := ixa_sl (by kernel_rfl) ..
@[simp] theorem ixa89 (r off ver : Nat) (k : IntKind) (i : Int) : aIndexAddr Tryd.prog 89 (.ptr r off ver) (.int k i) = if 0 ≤ i ∧ i < (24 : Nat) then some (.ptr r (off + i.toNat * 1) ver) else none := ixa_ar (by kernel_rfl) ..
@[simp] theorem ld3 (H : AH) (r off ver : Nat) : loadV Tryd.prog 3 H (.ptr r off ver) = ld H r off ver := ld_sc (by kernel_rfl) ..
@[simp] theorem ld4 (H : AH) (r off ver : Nat) : loadV Tryd.prog 4 H (.ptr r off ver) = ld H r off ver := ld_sc (by kernel_rfl) ..
@[simp] theorem ld5 (H : AH) (r off ver : Nat) : loadV Tryd.prog 5 H (.ptr r off ver) = ld H r off ver := ld_sc (by kernel_rfl) ..
theorem sc3 : scal Tryd.prog 3 = true := by kernel_rfl
theorem sc4 : scal Tryd.prog 4 = true := by kernel_rfl
theorem ag93 : aggSz Tryd.prog 93 = some 2 := by kernel_rfl
theorem ag61 : aggSz Tryd.prog 61 = some 2 := by kernel_rfl
@[simp] theorem ld93 (H : AH) (r off ver : Nat) : loadV Tryd.prog 93 H (.ptr r off ver) = (ldn H r ver 2 off).map .agg := load_agg ag93 ..
@[simp] theorem ld61 (H : AH) (r off ver : Nat) : loadV Tryd.prog 61 H (.ptr r off ver) = (ldn H r ver 2 off).map .agg := load_agg ag61 ..
@[simp] theorem fa930 (r off ver : Nat) : aFieldAddr Tryd.prog 93 (.ptr r off ver) 0 = some (.ptr r (off + 0) ver) := fld_ptr (by kernel_rfl) ..
@[simp] theorem fa931 (r off ver : Nat) : aFieldAddr Tryd.prog 93 (.ptr r off ver) 1 = some (.ptr r (off + 1) ver) := fld_ptr (by kernel_rfl) ..
@[simp] theorem fa610 (r off ver : Nat) : aFieldAddr Tryd.prog 61 (.ptr r off ver) 0 = some (.ptr r (off + 0) ver) := fld_ptr (by kernel_rfl) ..
@[simp] theorem fa611 (r off ver : Nat) : aFieldAddr Tryd.prog 61 (.ptr r off ver) 1 = some (.ptr r (off + 1) ver) := fld_ptr (by kernel_rfl) ..
theorem zt93 : zeroT Tryd.prog 93 = some [.int .i64 0, .int .i64 0] := by kernel_rfl
theorem zt61 : zeroT Tryd.prog 61 = some [.int .i64 0, .int .i64 0] := by kernel_rfl
theorem zt3 : zeroT Tryd.prog 3 = some [.int .i64 0] := by kernel_rfl
theorem zt4 : zeroT Tryd.prog 4 = some [.bool false] := by kernel_rfl
theorem pr93 : pairT Tryd.prog 93 = true := by kernel_rfl
@[simp] theorem built93 (a b : Int) : aBuilt Tryd.prog 93 [(0, .int .i64 a), (1, .int .i64 b)] = some [.int .i64 a, .int .i64 b] := by kernel_rfl
@[simp] theorem built61 (a b : Int) : aBuilt Tryd.prog 61 [(0, .int .i64 a), (1, .int .i64 b)] = some [.int .i64 a, .int .i64 b] := by kernel_rfl
/-- Two cells, written and read. -/
def two (a b : Int) : List AV := [.int .i64 a, .int .i64 b]
theorem put93 (H : AH) (a b : Int) : storeV Tryd.prog 93 (H ++ [.row [.int .i64 0, .int .i64 0] 0 0 false]) (.ptr H.length 0 0) (.agg [.int .i64 a, .int .i64 b]) = some (none, H ++ [.row (two a b) 0 0 false]) := by
  rw [store_agg ag93 (c := [.int .i64 0, .int .i64 0]) (s := 0) (by simp) (by decide) rfl (by simp) rfl (by simp [AV.one])]
  simp [two]
theorem put61 (H : AH) (a b : Int) : storeV Tryd.prog 61 (H ++ [.row [.int .i64 0, .int .i64 0] 0 0 false]) (.ptr H.length 0 0) (.agg [.int .i64 a, .int .i64 b]) = some (none, H ++ [.row (two a b) 0 0 false]) := by
  rw [store_agg ag61 (c := [.int .i64 0, .int .i64 0]) (s := 0) (by simp) (by decide) rfl (by simp) rfl (by simp [AV.one])]
  simp [two]
theorem set93 {H : AH} {w : Nat} {a b c d : Int} {s : Nat} (hw : H[w]? = some (.row (two a b) 0 s false)) : storeV Tryd.prog 93 H (.ptr w 0 0) (.agg [.int .i64 c, .int .i64 d]) = some (none, H.set w (.row (two c d) 0 0 false)) :=
  store_agg ag93 hw (by decide) rfl (by simp [two]) rfl (by simp [AV.one])
theorem ldn_two {H : AH} {w s : Nat} {a b : Int} {ro : Bool} (hw : H[w]? = some (.row (two a b) 0 s ro)) : ldn H w 0 2 0 = some [.int .i64 a, .int .i64 b] := by
  rw [ldn_row hw]; rfl
theorem ld_two0 {H : AH} {w s : Nat} {a b : Int} {ro : Bool} (hw : H[w]? = some (.row (two a b) 0 s ro)) : ld H w 0 0 = some (.int .i64 a) := by
  rw [ld_row hw]; rfl
theorem ld_two1 {H : AH} {w s : Nat} {a b : Int} {ro : Bool} (hw : H[w]? = some (.row (two a b) 0 s ro)) : ld H w 1 0 = some (.int .i64 b) := by
  rw [ld_row hw]; rfl
/-- Heaps. -/
def cells (l : List (Int × Int)) : List (List AV) := l.map fun h => two h.1 h.2
@[simp] theorem cells_length (l : List (Int × Int)) : (cells l).length = l.length := by simp [cells]
def Hs (H : AH) (v : AV) (l : List (Int × Int)) : Prop := Rs 2 H v (cells l)
theorem Hs.ext {H H1 : AH} {v : AV} {l : List (Int × Int)} (h : Hs H v l) (hE : Ext H H1) : Hs H1 v l := Rs.ext h hE
theorem Hs.read {H : AH} {v : AV} {l : List (Int × Int)} (h : Hs H v l) : ∃ r off ver sz full, v = .slice r off l.length ver sz full ∧ ∀ i (hi : i < l.length), ∃ r', r = some r' ∧ sz = 2 ∧ ldn H r' ver 2 (off + i * 2) = some [.int .i64 l[i].1, .int .i64 l[i].2] := by
  obtain ⟨r, off, ver, sz, full, rfl, hl⟩ := h
  refine ⟨r, off, ver, sz, full, by simp, fun i hi => ?_⟩
  obtain ⟨r', h1, h2, h3⟩ := hl i (by simpa using hi)
  exact ⟨r', h1, h2, by simpa [cells, two] using h3⟩
end Go.Proofs.YtjldfcfomiopfaaDoor
