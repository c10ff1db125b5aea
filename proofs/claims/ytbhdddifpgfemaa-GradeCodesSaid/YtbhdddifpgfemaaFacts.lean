/- What the steps ask of the types of this program; an element is struck. -/
import Derived.Test.YtbhdddifpgfemaaBase
import Derived.Test.YtbhdddifpgfemaaAxR
namespace Go.Proofs.Ytbhdddifpgfemaa
open Go Go.Proofs.Ytbhdddifpgfemaa.AX
@[simp] theorem len22 (r : Option Nat) (off len ver sz : Nat) (full : Bool) : aLen Try.prog 22 (.slice r off len ver sz full) = some (.int .i64 len) := len_sl (n := 1) (by kernel_rfl) ..
@[simp] theorem ixa22 (r off len ver : Nat) (full : Bool) (k : IntKind) (i : Int) : aIndexAddr Try.prog 22 (.slice (some r) off len ver 1 full) (.int k i) = if 0 ≤ i ∧ i < len then some (.ptr r (off + i.toNat * 1) ver) else none := ixa_sl (by kernel_rfl) ..
@[simp] theorem ld3 (H : AH) (r off ver : Nat) : loadV Try.prog 3 H (.ptr r off ver) = ld H r off ver := ld_sc (by kernel_rfl) ..
@[simp] theorem ld4 (H : AH) (r off ver : Nat) : loadV Try.prog 4 H (.ptr r off ver) = ld H r off ver := ld_sc (by kernel_rfl) ..
@[simp] theorem ld5 (H : AH) (r off ver : Nat) : loadV Try.prog 5 H (.ptr r off ver) = ld H r off ver := ld_sc (by kernel_rfl) ..
theorem sc3 : scal Try.prog 3 = true := by kernel_rfl
theorem sc4 : scal Try.prog 4 = true := by kernel_rfl
theorem el22 : elT Try.prog 22 = true := by kernel_rfl
theorem elz22 : elZ Try.prog 22 = some (.int .i64 0) := by kernel_rfl
theorem slz22 : slSz Try.prog 22 = some 1 := by kernel_rfl
@[simp] theorem row22 (H : AH) (b : Int) : rowV Try.prog 22 1 [(0, .int .i64 b)] H = some (some (.slice (some H.length) 0 1 0 1 false), H ++ [.row [.int .i64 b] 0 1 false]) := row1 el22 rfl rfl

theorem un22 : ∃ e ie, Try.prog.underlying 22 = some (.slice e) ∧ Try.prog.info? e = some ie ∧ ie.size = 1 := by
  have h := slz22
  unfold slSz at h
  split at h
  case h_2 => cases h
  rename_i e he
  cases hi : Try.prog.info? e with
  | none => rw [hi] at h; cases h
  | some ie => rw [hi] at h; exact ⟨e, ie, he, hi, Option.some.inj h⟩
theorem clip3 (r ver n : Nat) (i : Nat) (hi : i < n) : ∃ v, aSlice Try.prog 22 (.slice (some r) 0 n ver 1 false) (some (.int .i64 (i : Int))) (some (.int .i64 ((i : Int) + 1))) (some (.int .i64 (n : Int))) = some v := by
  obtain ⟨e, ie, h1, h2, h3⟩ := un22
  have hb : aBounds n (some (.int .i64 (i : Int))) (some (.int .i64 ((i : Int) + 1))) (some (.int .i64 (n : Int))) = some (i, i + 1, n) := by
    simp [aBounds, aBound, show (0 : Int) ≤ (i : Int) + 1 by omega, show (i : Int) + 1 ≤ (n : Int) by omega, show ((i : Int) + 1).toNat = i + 1 by omega]
  simp only [aSlice, h1, h2, h3, if_true, hb, Option.map_some]
  exact ⟨_, rfl⟩
theorem more (H : AH) (r ver n s : Nat) (cells : List AV) (hr : H[r]? = some (.row cells ver s false)) (hn : 0 < n) (hc : n ≤ cells.length) :
    aSlice Try.prog 22 (.slice (some r) 0 (n - 1) ver 1 false) (some (.int .i64 ((n - 1 : Nat) : Int))) (some (.int .i64 (n : Int))) none = none ∧
    sliceR Try.prog 22 H (.slice (some r) 0 (n - 1) ver 1 false) (some (.int .i64 ((n - 1 : Nat) : Int))) (some (.int .i64 (n : Int))) none = some (.slice (some r) (n - 1) 1 ver 1 false) := by
  obtain ⟨e, ie, h1, h2, h3⟩ := un22
  have hb : aBounds (n - 1) (some (.int .i64 ((n - 1 : Nat) : Int))) (some (.int .i64 (n : Int))) none = none := by
    have : ¬ ((n : Int) ≤ ((n - 1 : Nat) : Int)) := by omega
    simp [aBounds, aBound]
    omega
  have hb2 : aBounds ((cells.length - 0) / 1) (some (.int .i64 ((n - 1 : Nat) : Int))) (some (.int .i64 (n : Int))) none = some (n - 1, n, (cells.length - 0) / 1) := by
    have h4 : (n : Int) ≤ (cells.length : Int) := by omega
    have h5 : ((n - 1 : Nat) : Int) ≤ (n : Int) := by omega
    simp only [aBounds, aBound, Nat.sub_zero, Nat.div_one, Option.bind_some]
    rw [if_pos ⟨by omega, h4⟩, Option.bind_some, if_pos ⟨by omega, by rw [Int.toNat_natCast]; exact h5⟩, Option.bind_some, Int.toNat_natCast, Int.toNat_natCast]
  constructor
  · simp only [aSlice, h1, h2, h3, if_true, hb, Option.map_none]
  · simp only [sliceR, h1, h2, h3, hr]
    rw [if_pos ⟨trivial, trivial, by omega, rfl, trivial⟩, hb2]
    simp
    omega
set_option maxRecDepth 100000 in
theorem Delete_ac (r ver stale : Nat) (tl : List AV) (l : List Int) (i : Nat) (H : AH) (Q : AV → AH → Prop) (hi : i < l.length) (hl : l.length ≤ 1000000) (hr : H[r]? = some (.row (l.map (.int .i64) ++ tl) ver stale false)) (hone : ∀ x ∈ l.map (.int .i64) ++ tl, x.one = true)
    (h : ∀ H' s' tl', H'[r]? = some (.row ((l.eraseIdx i).map (.int .i64) ++ tl') ver s' false) → (∀ x ∈ (l.eraseIdx i).map (.int .i64) ++ tl', x.one = true) → H'.length = H.length → (∀ j, j ≠ r → H'[j]? = H[j]?) → Q (.slice (some r) 0 (l.length - 1) ver 1 false) H') :
    AC Try.prog 93 [.slice (some r) 0 l.length ver 1 false, .int .i64 i, .int .i64 ((i : Int) + 1)] H Q := by
  obtain ⟨u, hu⟩ := clip3 r ver l.length i hi
  refine L_body 33 Try.func93 rfl rfl ?_
  refine L_reg [0, 1, 2] (fun K hK => ?_)
  simp
  apply hK; clear hK K
  refine L_reg [0, 1, 2] (fun K hK => ?_)
  simp [hu]
  apply hK; clear hK K
  refine L_reg [0, 1, 2, 16] (fun K hK => ?_)
  simp
  apply hK; clear hK K
  refine L_dec ((i : Int) = (i : Int) + 1) (by simp; rfl) (fun he => by omega) (fun he => ?_)
  refine L_reg [0, 1, 2, 7] (fun K hK => ?_)
  simp
  apply hK; clear hK K
  have hil : i < (l.map (AV.int .i64)).length := by simpa using hi
  obtain ⟨s', happ⟩ := del_append (H := H) (t := 22) el22 hr hone hil (by simp; omega) false
  simp only [List.length_map] at happ
  refine L_regT mixed [0, 7] (by kernel_rfl) (fun K hK => ?_)
  have e1 : aSlice Try.prog 22 (.slice (some r) 0 l.length ver 1 false) none (some (.int .i64 (i : Int))) none = some (.slice (some r) 0 i ver 1 false) := by
    have := slice_hi slz22 (some r) 0 l.length ver false (k := .i64) (i := i) (by omega)
    simpa using this
  have e2 : aSlice Try.prog 22 (.slice (some r) 0 l.length ver 1 false) (some (.int .i64 ((i : Int) + 1))) none none = some (.slice (some r) (i + 1) (l.length - (i + 1)) ver 1 false) := by
    have := slice_lo slz22 (some r) 0 l.length ver false (k := .i64) (i := i + 1) (by omega)
    simpa using this
  simp [happ, e1, e2]
  apply hK; clear hK K
  have hrl : r < H.length := (List.getElem?_eq_some_iff.1 hr).1
  obtain ⟨H1, hH1⟩ : ∃ H1, H1 = H.set r (AObj.row ((l.map (AV.int .i64)).eraseIdx i ++ ((l.map (AV.int .i64)).drop (l.length - 1) ++ tl)) ver s' false) := ⟨_, rfl⟩
  have hr1 : H1[r]? = some (AObj.row ((l.map (AV.int .i64)).eraseIdx i ++ ((l.map (AV.int .i64)).drop (l.length - 1) ++ tl)) ver s' false) := by
    rw [hH1, List.getElem?_set]; simp [hrl]
  have hX1 : H1.length = H.length ∧ ∀ j, j ≠ r → H1[j]? = H[j]? := by
    rw [hH1]
    exact ⟨by simp, fun j hj => by rw [List.getElem?_set]; simp [Ne.symm hj]⟩
  obtain ⟨x, hx⟩ : ∃ x, (l.map (AV.int .i64)).drop (l.length - 1) = [x] := by
    have : ((l.map (AV.int .i64)).drop (l.length - 1)).length = 1 := by simp; omega
    exact List.length_eq_one_iff.1 this
  have hxo : x.one = true := hone x (List.mem_append_left _ (List.mem_of_mem_drop (i := l.length - 1) (by rw [hx]; simp)))
  rw [hx, List.singleton_append] at hr1
  rw [← hH1]
  clear happ hH1
  have hel : ((l.map (AV.int .i64)).eraseIdx i).length = l.length - 1 := by rw [List.length_eraseIdx]; simp [hi]
  obtain ⟨e3, e4⟩ := more H1 r ver l.length s' _ hr1 (by omega) (by simp [hel]; omega)
  have e5 := del_clear elz22 hr1 hxo rfl hel false
  refine L_reg [0] (fun K hK => ?_)
  simp [e3, e4, e5]
  apply hK; clear hK K
  refine L_reg [6] (fun K hK => ?_)
  simp
  apply hK; clear hK K
  refine L_ret ⟨.inr rfl, _, rfl, ?_⟩
  have e6 : (l.map (AV.int .i64)).eraseIdx i = (l.eraseIdx i).map (.int .i64) := by rw [List.eraseIdx_eq_take_drop_succ, List.eraseIdx_eq_take_drop_succ, List.map_append, List.map_take, List.map_drop]
  refine h _ (min s' (l.length - 1)) (.int .i64 0 :: tl) ?_ ?_ (by simp [hX1.1]) fun j hj => by rw [List.getElem?_set, ← hX1.2 j hj]; simp [Ne.symm hj]
  · rw [← e6, List.getElem?_set]
    simp [(List.getElem?_eq_some_iff.1 hr1).1]
  · intro y hy
    rcases List.mem_append.1 hy with hy | hy
    · obtain ⟨z, -, rfl⟩ := List.mem_map.1 hy; rfl
    · rcases List.mem_cons.1 hy with rfl | hy
      · rfl
      · exact hone y (List.mem_append_right _ hy)
end Go.Proofs.Ytbhdddifpgfemaa
