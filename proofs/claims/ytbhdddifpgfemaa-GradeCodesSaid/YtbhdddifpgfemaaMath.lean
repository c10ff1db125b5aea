/- Codes of orders. -/
import Derived.Test.YtbhdddifpgfemaaFrom
namespace Go.Proofs.Ytbhdddifpgfemaa

theorem erase_perm {l : List Int} {i : Nat} (h : i < l.length) : (l[i] :: l.eraseIdx i).Perm l := by
  rw [List.eraseIdx_eq_take_drop_succ]
  have e : l = l.take i ++ l[i] :: l.drop (i + 1) := by rw [← List.drop_eq_getElem_cons h, List.take_append_drop]
  conv => rhs; rw [e]
  exact List.perm_middle.symm
theorem dealS_perm : ∀ {ks : List Nat} {left : List Int}, left.length = ks.length → (dealS left ks).Perm left
  | [], left, h => by
    have : left = [] := List.eq_nil_of_length_eq_zero (by simpa using h)
    subst this; exact List.Perm.refl _
  | k :: ks, left, h => by
    have h0 : 0 < left.length := by rw [h]; simp
    have hd : k % left.length < left.length := Nat.mod_lt _ h0
    unfold dealS
    rw [List.getElem?_eq_getElem hd, Option.getD_some]
    have h1 : (left.eraseIdx (k % left.length)).length = ks.length := by rw [List.length_eraseIdx, if_pos hd, h]; simp
    exact ((dealS_perm h1).cons _).trans (erase_perm hd)
theorem iota_sorted (n : Nat) : (iota n).Pairwise (· < ·) := by
  unfold iota
  rw [List.pairwise_map]
  exact List.pairwise_lt_range.imp fun h => by omega
theorem iota_mem {n : Nat} {x : Int} (h : x ∈ iota n) : 0 ≤ x ∧ x < n := by
  obtain ⟨i, hi, rfl⟩ := List.mem_map.1 h
  have := List.mem_range.1 hi
  omega
theorem chkS_zero {n : Int} : ∀ {l done : List Int}, (done ++ l).Nodup → (∀ x ∈ l, 0 ≤ x ∧ x < n) → chkS n done l = 0
  | [], _, _, _ => by simp [chkS]
  | x :: l, done, hn, h => by
    have hx := h x (by simp)
    unfold chkS
    rw [if_neg (by omega)]
    have hm : x ∉ done := by
      intro hm
      exact (List.nodup_append.1 hn).2.2 x hm x (by simp) rfl
    rw [if_neg hm]
    exact chkS_zero (by simpa using hn) fun y hy => h y (by simp [hy])
theorem codeS_cons (x : Int) (l : List Int) : codeS (x :: l) = ((l.countP fun e => decide (e < x) : Nat) : Int) :: codeS l := by
  unfold codeS
  rw [List.length_cons, List.range_succ_eq_map, List.map_cons, List.map_map]
  congr 1
  · simp [cnt]
    rw [List.take_of_length_le (by omega)]
  · apply List.map_congr_left
    intro q _
    show ((cnt (x :: l) (q + 1) (l.length + 1) : Nat) : Int) = _
    have : cnt (x :: l) (q + 1) (l.length + 1) = cnt l q (l.length + 1) := by simp [cnt]
    rw [this, cnt_full l (by omega)]
@[simp] theorem codeS_len (l : List Int) : (codeS l).length = l.length := by simp [codeS]
theorem chkC_code : ∀ l : List Int, chkC (codeS l) = 0
  | [] => rfl
  | x :: l => by
    rw [codeS_cons]
    unfold chkC
    have : (l.countP fun e => decide (e < x)) ≤ l.length := List.countP_le_length
    rw [if_neg (by simp; omega)]
    exact chkC_code l
theorem chkC_bad : ∀ {l : List Int} {k : Nat} {v : Int}, k < l.length → (v < 0 ∨ (l.length : Int) - k ≤ v) → chkC (l.set k v) = 1
  | x :: l, 0, v, _, h => by
    simp only [List.set_cons_zero, chkC]
    rw [if_pos (by simp at h; omega)]
  | x :: l, k + 1, v, hk, h => by
    simp only [List.set_cons_succ, chkC]
    split
    · rfl
    · exact chkC_bad (by simpa using hk) (by simp at h; omega)
theorem sorted_idx : ∀ {l : List Int} {x : Int}, l.Pairwise (· < ·) → x ∈ l → l[l.countP fun e => decide (e < x)]? = some x
  | y :: l, x, hs, hx => by
    rw [List.pairwise_cons] at hs
    by_cases hxy : x = y
    · subst hxy
      have : (List.countP (fun e => decide (e < x)) (x :: l)) = 0 := by
        rw [List.countP_eq_zero]
        intro z hz
        rcases List.mem_cons.1 hz with rfl | hz
        · simp
        · have := hs.1 z hz
          simp; omega
      rw [this]; rfl
    · have hxl : x ∈ l := by
        rcases List.mem_cons.1 hx with h | h
        · exact absurd h hxy
        · exact h
      have := hs.1 x hxl
      rw [List.countP_cons, if_pos (by simpa using this)]
      exact sorted_idx hs.2 hxl
theorem fromS_code : ∀ {a left : List Int}, left.Pairwise (· < ·) → a.Perm left → fromS left (codeS a) = a
  | [], _, _, _ => rfl
  | x :: l, left, hs, hp => by
    have hx : x ∈ left := hp.subset (by simp)
    have hc : (left.countP fun e => decide (e < x)) = (l.countP fun e => decide (e < x)) := by
      rw [← hp.countP_eq, List.countP_cons]
      simp
    have h1 := sorted_idx hs hx
    rw [hc] at h1
    rw [codeS_cons]
    unfold fromS
    rw [Int.toNat_natCast, h1, Option.getD_some]
    have hd := (List.getElem?_eq_some_iff.1 h1).1
    have he := (List.getElem?_eq_some_iff.1 h1).2
    have h2 := erase_perm hd
    rw [he] at h2
    rw [fromS_code (hs.sublist (List.eraseIdx_sublist _ _)) ((h2.trans hp.symm).cons_inv).symm]
end Go.Proofs.Ytbhdddifpgfemaa
