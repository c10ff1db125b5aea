/- Two stores in a list; a list of a store changed. -/
import Derived.Test.YtfbpgnjeafadmaaMoreM
namespace Go.Proofs.Ytfbpgnjeafadmaa.Fl
open Go Go.Proofs.Ytfbpgnjeafadmaa Go.Proofs.Ytfbpgnjeafadmaa.AX
set_option maxRecDepth 100000

theorem und71 : Try.prog.underlying 71 = some (.slice 24) := by kernel_rfl
theorem size24 : (tiOf Try.prog 24).map (·.size) = some 4 := by kernel_rfl
theorem row71_2 (H : AH) (m k m' k' : Int) (u w u' w' : AV) : rowV Try.prog 71 2 [(0, .agg [.int .i64 m, .int .i64 k, u, w]), (1, .agg [.int .i64 m', .int .i64 k', u', w'])] H = some (some (.slice (some H.length) 0 2 0 4 false), H ++ [.row [.int .i64 m, .int .i64 k, u, w, .int .i64 m', .int .i64 k', u', w'] 0 8 false]) := by
  obtain ⟨I, hI, hz⟩ := zeroT_some zt24'
  have hs := size24
  rw [hI] at hs
  have hs : I.size = 4 := by simpa using hs
  simp [rowV, hI, hs, hz, zst, aFill, AV.isU, acells, List.range_succ, List.zipIdx]
theorem st_sick {H : AH} {q s : Nat} {m k : Int} {u w v : AV} (hr : H[q]? = some (.row [.int .i64 m, .int .i64 k, u, w] 0 s false)) (hu : u.one = true) (hv : v.one = true) : storeV Try.prog 22 H (.ptr q 2 0) v = some (none, H.set q (.row [.int .i64 m, .int .i64 k, v, w] 0 (min s 2) false)) := by
  rw [store_row (P := Try.prog) (u := 22) (p := 2) sc22 (y := u) hv hr (by simp [known]; cases u <;> simp_all [AV.one])]
  rfl
theorem st_cold {H : AH} {q s : Nat} {m k : Int} {u w v : AV} (hr : H[q]? = some (.row [.int .i64 m, .int .i64 k, u, w] 0 s false)) (hw : w.one = true) (hv : v.one = true) : storeV Try.prog 22 H (.ptr q 3 0) v = some (none, H.set q (.row [.int .i64 m, .int .i64 k, u, v] 0 (min s 3) false)) := by
  rw [store_row (P := Try.prog) (u := 22) (p := 3) sc22 (y := w) hv hr (by simp [known]; cases w <;> simp_all [AV.one])]
  rfl
theorem two24b (H : AH) {m k : Int} {u w : AV} (hu : u.one = true) (hw : w.one = true) (A : AObj) (T : AH) : storeV Try.prog 24 (H ++ A :: .row zst 0 0 false :: T) (.ptr (H.length + 1) 0 0) (.agg [.int .i64 m, .int .i64 k, u, w]) = some (none, H ++ A :: .row [.int .i64 m, .int .i64 k, u, w] 0 0 false :: T) := by
  rw [st24 (c := zst) (s := 0) (by simp) rfl (by simp [zst]) hu hw]; simp
theorem ext_set2 {A B : AH} (h : Ext A B) {q : Nat} (hq : q < A.length) (o : AObj) : Ext (A.set q o) (B.set q o) := by
  have hl := h.1
  refine ⟨by simpa using h.1, fun j hj => ?_⟩
  rw [List.length_set] at hj
  by_cases e : q = j
  · subst e
    rw [List.getElem?_set_self hq, List.getElem?_set_self (by omega)]
  · rw [List.getElem?_set_ne e, List.getElem?_set_ne e]
    exact h.2 j hj
theorem ls_cut {H : AH} {rr vv s : Nat} {l : List Int} {tl : List AV} {m : Nat} (hm : l.length = m) (hr : H[rr]? = some (.row (l.map (.int .i64) ++ tl) vv s false)) : Ls H (.slice (some rr) 0 m vv 1 false) l := by
  subst hm
  refine ⟨some rr, 0, vv, 1, false, rfl, fun i hi => ⟨rr, rfl, rfl, ?_⟩⟩
  rw [ld_row hr]
  rw [Nat.zero_add, List.getElem?_append_left (by simpa using hi), List.getElem?_map, List.getElem?_eq_getElem hi]
  rfl
end Go.Proofs.Ytfbpgnjeafadmaa.Fl
