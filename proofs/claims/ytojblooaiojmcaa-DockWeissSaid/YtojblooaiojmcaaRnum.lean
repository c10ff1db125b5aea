/- The reference's numbers of lists of wishes. -/
import Derived.Test.YtojblooaiojmcaaCopy
namespace Go.Proofs.Ytojblooaiojmcaa
open Go Go.Proofs.Ytojblooaiojmcaa.AX

theorem gcount {n k s w : Nat} {l : List Nat} (hs : -1 ∉ parkS n 0 l) (hset : setL n 0 l = s) : (if -1 ∈ parkS n 0 (l ++ [w]) then 0 else tlF n k (setL n 0 (l ++ [w]))) = gW n k s w := by
  rw [parkS_append, setL_append, hset]
  simp only [List.mem_append, hs, false_or, parkS, setL]
  unfold gW nextSet
  by_cases h : ff s (n - w) w < n
  · simp only [if_pos h]
    rw [if_neg]
    rw [List.mem_singleton]; omega
  · simp only [if_neg h]
    rw [if_pos (by simp)]
theorem row0 (H : AH) : rowV Try.prog 22 0 [] H = some (some (.slice (some H.length) 0 0 0 1 false), H ++ [.row [] 0 0 false]) := by
  obtain ⟨e, I, h1, h2, h3, h4, h5⟩ := elT_some el22
  simp [rowV, h1, h2, h3, aFill]
theorem OwnF.ext {N : Nat} {H H' : AH} {u : AV} {l : List AV} (h : OwnF N H u l) (hE : Ext H H') : OwnF N H' u l := by
  rcases h with h1 | ⟨r, ver, st, h1, h2, h3⟩
  · exact .inl h1
  · exact .inr ⟨r, ver, st, h1, h2, hE.row h3⟩
theorem map_int (l : List Nat) : (l.map Int.ofNat).map (AV.int .i64) = l.map fun x => .int .i64 (x : Nat) := by simp

set_option maxRecDepth 100000 in
theorem rAt_ac (n m num : Int) (H : AH) (Q : AV → AH → Prop) (h : ∀ v' H', Ls H' v' ((atL n m num).map Int.ofNat) → Ext H H' → Q (.tuple [v', .int .i64 (atE n m num)]) H') : AC Try.prog 36 [.int .i64 n, .int .i64 m, .int .i64 num] H Q := by
  refine L_body 62 Try.func36 rfl rfl ?_
  refine L_reg [0, 1, 2] (fun K hK => ?_)
  simp
  apply hK; clear hK K
  refine L_reg [0, 1, 2, 8, 9] (fun K hK => ?_)
  simp [okFn_low]
  refine rCount_ac _ _ _ _ ?_
  simp
  apply hK; clear hK K
  by_cases h0 : cartsE n m = 0
  case neg =>
    have hE : atE n m num = cartsE n m := by rw [atE, if_pos h0]
    rw [atL, hE, if_pos h0] at h
    have hb0 : (cartsE n m == 0) = false := by simpa using h0
    refine L_reg [0, 1, 2, 9, 28] (fun K hK => ?_)
    simp [okFn_low, hb0]
    apply hK; clear hK K
    refine L_false (by simp) ?_
    refine L_reg [0, 1, 2, 9, 30] (fun K hK => ?_)
    simp
    apply hK; clear hK K
    refine L_true (by simp [h0]) ?_
    refine L_reg [6, 7] (fun K hK => ?_)
    simp
    apply hK; clear hK K
    exact L_ret ⟨.inr rfl, _, rfl, h _ _ (.nil _) (.refl _)⟩
  obtain ⟨a, b, rfl, rfl, ha1, ha8, hba⟩ := cartsE_ok h0
  have hE : atE a b num = if num < 0 ∨ (tlF a b 0 : Int) ≤ num then 1 else 0 := by rw [atE, if_neg (by omega)]; rfl
  have hcs : countS a b = tlF a b 0 := by rw [countS, if_neg (by omega)]; rfl
  have hnb : tlF a b 0 ≤ 16777216 := Nat.le_trans (tlF_le ha8 b 0) (pow8 (show b ≤ 8 by omega))
  rw [hcs, h0]
  refine L_reg [0, 1, 2, 9, 28] (fun K hK => ?_)
  simp [okFn_low, wrap_i64 (a := (tlF a b 0 : Int) - 1) (by omega)]
  refine in_ac _ _ _ _ _ ?_
  simp
  apply hK; clear hK K
  by_cases hbig : num < 0 ∨ (tlF a b 0 : Int) ≤ num
  case pos =>
    rw [if_pos hbig] at hE
    rw [atL, hE, if_pos (by decide)] at h
    refine L_true (by simp; omega) ?_
    refine L_reg [0, 1, 2, 9] (fun K hK => ?_)
    simp
    apply hK; clear hK K
    refine L_reg [0, 1, 2, 9, 30] (fun K hK => ?_)
    simp
    apply hK; clear hK K
    refine L_true (by simp) ?_
    refine L_reg [6, 7] (fun K hK => ?_)
    simp
    apply hK; clear hK K
    exact L_ret ⟨.inr rfl, _, rfl, h _ _ (.nil _) (.refl _)⟩
  rw [if_neg hbig] at hE
  rw [atL, hE, if_neg (by decide)] at h
  refine L_false (by simp; omega) ?_
  obtain ⟨nu, rfl⟩ := Int.eq_ofNat_of_zero_le (show 0 ≤ num by omega)
  simp only [Int.toNat_natCast] at h
  have hnu : nu < tlF a b 0 := by omega
  refine L_reg [0, 1, 2, 9, 30] (fun K hK => ?_)
  simp
  apply hK; clear hK K
  refine L_false (by simp) ?_
  refine L_reg [0, 1, 2, 10] (fun K hK => ?_)
  simp
  apply hK; clear hK K
  refine L_reg [0, 1, 2, 10, 11] (fun K hK => ?_)
  simp
  apply hK; clear hK K
  refine L_block (L_loopV [2, 10, 11] (fun k vs H' => ∃ (i s x : Nat) (done : List Nat) (u : AV), k = b - i ∧ i ≤ b ∧ setL a 0 done = s ∧ -1 ∉ parkS a 0 done ∧ (∀ w ∈ done, w < a) ∧ x < tlF a (b - i) s ∧ x ≤ nu ∧ done.length = i ∧ done ++ atS a (b - i) s x = atS a b 0 nu ∧ vs = [.int .i64 x, u, .int .i64 i] ∧
    Ext H H' ∧ OwnF H.length H' u ((done.map Int.ofNat).map (.int .i64))) _ [.int .i64 (nu : Nat), .slice none 0 0 0 1 false, .int .i64 (0 : Nat)] rfl
    ⟨0, 0, nu, [], _, rfl, by omega, rfl, by simp [parkS], by simp, hnu, Nat.le_refl _, rfl, rfl, rfl, .refl _, .nil _ _⟩ ?_)
  rintro k _ H5 ⟨i, s, x, done, u, rfl, hi, hs, hns, hdw, hx, hxn, hd, hat, rfl, hE5, hO⟩
  refine L_reg [0, 1, 2, 10, 11, 34] (fun K hK => ?_)
  simp
  apply hK; clear hK K
  refine L_dec (i < b) (by simp) (fun hlt => ?_) (fun hge => L_exit ?_)
  · obtain ⟨k, hk⟩ : ∃ k, b - i = k + 1 := ⟨b - i - 1, by omega⟩
    have hk1 : b - (i + 1) = k := by omega
    rw [hk] at hx hat
    have hx' : x < sW (gW a k s) a := hx
    rw [atS] at hat
    obtain ⟨ur, uv, hu⟩ := hO.len
    refine L_block ?_
    refine L_reg [0, 1, 2, 10, 11, 12] (fun K hK => ?_)
    simp
    apply hK; clear hK K
    refine L_block (L_loopV [2, 12] (fun k' vs H' => ∃ w : Nat, k' = a - w ∧ w < a ∧ sW (gW a k s) w ≤ x ∧ vs = [.int .i64 (x - sW (gW a k s) w : Nat), .int .i64 w] ∧ Ext H5 H') _ [.int .i64 (x : Nat), .int .i64 (0 : Nat)] rfl
      ⟨0, rfl, by omega, Nat.zero_le _, rfl, .refl _⟩ ?_)
    rintro k' _ H6 ⟨w, rfl, hwa, hwx, rfl, hE6⟩
    have hls := hO.own.ls.ext hE6
    obtain ⟨v1, H7, he1, hO1, hE7⟩ := copy_append el22 el22 hls (by simp; omega)
    obtain ⟨v2, H8, he2, hO2, hE8⟩ := ownF_append hE7 el22 el22 (x := .int .i64 (w : Nat)) (m := 1) hO1 rfl (by simp; omega)
    have hls2 : Ls H8 v2 ((done ++ [w]).map Int.ofNat) := by
      refine Own.ls ?_
      have := hO2.own
      simpa using this
    have hgc := gcount (n := a) (k := k) (w := w) hns hs
    have hgl := gW_le ha8 (k := k) (by omega) s w
    refine L_block ?_
    refine L_reg [0, 1, 2, 10, 11, 12, 13] (fun K hK => ?_)
    simp [okFn_low, row0, he1, he2, wrap_i64 (a := (b : Int) - i) (by omega), wrap_i64 (a := (b : Int) - i - 1) (by omega)]
    rw [show (b : Int) - i - 1 = ((k : Nat) : Int) by omega]
    refine rcount_ac a k v2 (done ++ [w]) _ _ ha8 (by simp; omega) (by omega) (by
      intro y hy
      rcases List.mem_append.1 hy with h | h
      · exact hdw y h
      · rw [List.mem_singleton] at h; omega) hls2 ?_
    rw [hgc]
    simp
    apply hK; clear hK K
    refine L_reg [0, 1, 2, 10, 11, 12, 13, 51] (fun K hK => ?_)
    simp
    apply hK; clear hK K
    refine L_dec (x - sW (gW a k s) w < gW a k s w) (by simp) (fun hfound => L_exit ?_) (fun hmore => ?_)
    · have hw2 : x < sW (gW a k s) (w + 1) := by rw [sW]; omega
      rw [wOf_eq hwa hwx hw2] at hat
      have hO8 : OwnF H.length H8 u ((done.map Int.ofNat).map (.int .i64)) := hO.ext (hE6.trans hE8)
      have hE8' : Ext H H8 := hE5.trans (hE6.trans hE8)
      obtain ⟨v3, H9, he3, hO3, hE9⟩ := ownF_append hE8' el22 el22 (x := .int .i64 (w : Nat)) (m := 1) hO8 rfl (by simp; omega)
      have hbm : ff s (a - w) w < a := by
        refine Nat.lt_of_not_le fun h5 => ?_
        unfold gW at hfound
        rw [if_neg (by omega)] at hfound
        omega
      have hgw : gW a k s w = tlF a k (nextSet a s w) := by unfold gW nextSet; rw [if_pos hbm, if_pos hbm]
      rw [hgw] at hfound
      have hns2 : -1 ∉ parkS a 0 (done ++ [w]) := by
        rw [parkS_append, hs]
        simp only [List.mem_append, hns, false_or, parkS, if_pos hbm, List.mem_singleton]
        omega
      refine L_reg [0, 1, 2, 10, 11] (fun K hK => ?_)
      simp [he3]
      apply hK; clear hK K
      refine L_reg [0, 1, 2, 10, 11] (fun K hK => ?_)
      simp [wrap_i64 (a := (i : Int) + 1) (by omega)]
      apply hK; clear hK K
      refine ⟨b - (i + 1), [.int .i64 (x - sW (gW a k s) w : Nat), v3, .int .i64 (i + 1 : Nat)], by omega, by simp, i + 1, nextSet a s w, x - sW (gW a k s) w, done ++ [w], v3, rfl, by omega, by rw [setL_append, hs]; rfl, hns2, ?_, by rw [hk1]; exact hfound, by omega, by simp [hd], by rw [hk1]; simpa using hat, rfl, hE9, by simpa using hO3⟩
      intro y hy
      rcases List.mem_append.1 hy with h | h
      · exact hdw y h
      · rw [List.mem_singleton] at h; omega
    · have hw3 : sW (gW a k s) (w + 1) ≤ x := by rw [sW]; omega
      have hw4 : w + 1 < a := by
        rcases Nat.lt_or_ge (w + 1) a with h1 | h1
        · exact h1
        · rw [show a = w + 1 by omega] at hx'; rw [show a = w + 1 by omega] at hw3; omega
      have hsub : ((x - sW (gW a k s) w : Nat) : Int) - (gW a k s w : Nat) = ((x - sW (gW a k s) (w + 1) : Nat) : Int) := by rw [sW] at hw3 ⊢; omega
      refine L_reg [0, 1, 2, 10, 11, 12] (fun K hK => ?_)
      simp [wrap_i64 (a := ((x - sW (gW a k s) w : Nat) : Int) - (gW a k s w : Nat)) (by omega)]
      apply hK; clear hK K
      refine L_reg [0, 1, 2, 10, 11, 12] (fun K hK => ?_)
      simp [wrap_i64 (a := (w : Int) + 1) (by omega)]
      apply hK; clear hK K
      exact ⟨a - (w + 1), [.int .i64 (x - sW (gW a k s) (w + 1) : Nat), .int .i64 (w + 1 : Nat)], by omega, by simp [hsub], w + 1, rfl, hw4, hw3, rfl, hE6.trans hE8⟩
  · have : i = b := by omega
    subst this
    rw [Nat.sub_self, atS, List.append_nil] at hat
    subst hat
    refine L_reg [6, 7] (fun K hK => ?_)
    simp
    apply hK; clear hK K
    exact L_ret ⟨.inr rfl, _, rfl, h _ _ hO.own.ls hE5⟩

set_option maxRecDepth 100000 in
theorem rNumber_ac (n : Int) (v : AV) (l : List Int) (H : AH) (Q : AV → AH → Prop) (hl : l.length ≤ 1048576) (hv : Ls H v l) (h : ∀ H', Ext H H' → Q (.tuple [.int .i64 (numV n l), .int .i64 (numE n l)]) H') : AC Try.prog 38 [.int .i64 n, v] H Q := by
  refine L_body 56 Try.func38 rfl rfl ?_
  refine L_reg [0, 1] (fun K hK => ?_)
  simp
  apply hK; clear hK K
  refine L_reg [0, 1, 6] (fun K hK => ?_)
  simp [okFn_low]
  refine refCheck_ac _ _ l _ _ hl hv ?_
  simp
  apply hK; clear hK K
  by_cases h0 : checkS n l = 0
  case neg =>
    have hE : numE n l = checkS n l := by rw [numE, if_pos h0]
    rw [numV, hE, if_pos h0] at h
    have hb0 : (checkS n l == 0) = false := by simpa using h0
    refine L_reg [0, 1, 6, 20] (fun K hK => ?_)
    simp [okFn_low, hb0]
    apply hK; clear hK K
    refine L_false (by simp) ?_
    refine L_reg [0, 1, 6, 22] (fun K hK => ?_)
    simp
    apply hK; clear hK K
    refine L_true (by simp [h0]) ?_
    refine L_reg [4, 5] (fun K hK => ?_)
    simp
    apply hK; clear hK K
    exact L_ret ⟨.inr rfl, _, rfl, h _ (.refl _)⟩
  rw [h0]
  obtain ⟨m, l', rfl, hm1, hm8, rfl, hlen, hw⟩ := checked h0
  have hE : numE m (l'.map Int.ofNat) = if -1 ∈ parkS m 0 l' then 14 else 0 := by rw [numE, if_neg (by omega), natL_of]; rfl
  refine L_reg [0, 1, 6, 20] (fun K hK => ?_)
  simp [okFn_low]
  refine rserves_ac m v l' _ _ hm8 (by omega) hw hv (fun H1 hE1 => ?_)
  simp
  apply hK; clear hK K
  by_cases hs : -1 ∈ parkS m 0 l'
  case pos =>
    rw [if_pos hs] at hE
    rw [numV, hE, if_pos (by decide)] at h
    refine L_true (by simp [hs]) ?_
    refine L_reg [0, 1, 6] (fun K hK => ?_)
    simp
    apply hK; clear hK K
    refine L_reg [0, 1, 6, 22] (fun K hK => ?_)
    simp
    apply hK; clear hK K
    refine L_true (by simp) ?_
    refine L_reg [4, 5] (fun K hK => ?_)
    simp
    apply hK; clear hK K
    exact L_ret ⟨.inr rfl, _, rfl, h _ hE1⟩
  rw [if_neg hs] at hE
  rw [numV, hE, if_neg (by decide), natL_of] at h
  simp only [Int.toNat_natCast] at h
  refine L_false (by simp [hs]) ?_
  refine L_reg [0, 1, 6, 22] (fun K hK => ?_)
  simp
  apply hK; clear hK K
  refine L_false (by simp) ?_
  have hv1 := hv.ext hE1
  obtain ⟨r, off, ver, sz, full, rfl, hld⟩ := id hv1
  simp only [List.length_map] at hld hv1 ⊢
  refine L_reg [0, 1, 7] (fun K hK => ?_)
  simp
  apply hK; clear hK K
  refine L_reg [0, 1, 7, 8] (fun K hK => ?_)
  simp
  apply hK; clear hK K
  refine L_block (L_loopV [7, 8] (fun k vs H' => ∃ (i a : Nat), k = l'.length - i ∧ i ≤ l'.length ∧ a ≤ 16777216 * i ∧ a + numS m (setL m 0 (l'.take i)) (l'.drop i) = numS m 0 l' ∧ vs = [.int .i64 a, .int .i64 i] ∧ Ext H1 H') _ [.int .i64 (0 : Nat), .int .i64 (0 : Nat)] rfl
    ⟨0, 0, rfl, by omega, by omega, by simp [setL], rfl, .refl _⟩ ?_)
  rintro k _ H4 ⟨i, a, rfl, hi, ha, hnum, rfl, hE4⟩
  refine L_reg [0, 1, 7, 8, 27] (fun K hK => ?_)
  simp
  apply hK; clear hK K
  refine L_dec (i < l'.length) (by simp) (fun hlt => ?_) (fun hge => L_exit ?_)
  · obtain ⟨r', rfl, rfl, hldi⟩ := hld i hlt
    simp only [List.getElem_map] at hldi
    have hwm := hw l'[i] (List.getElem_mem hlt)
    have hsplit : l'.take i ++ l'.drop i = l' := List.take_append_drop i l'
    have hnsp : -1 ∉ parkS m 0 (l'.take i) := by
      intro h5; apply hs; rw [← hsplit, parkS_append]; exact List.mem_append_left _ h5
    have htk : setL m 0 (l'.take (i + 1)) = nextSet m (setL m 0 (l'.take i)) l'[i] := by
      rw [List.take_succ_eq_append_getElem hlt, setL_append]; rfl
    rw [List.drop_eq_getElem_cons hlt, numS] at hnum
    have hrl : (l'.drop (i + 1)).length = l'.length - (i + 1) := by simp
    rw [hrl, ← htk] at hnum
    have htw : ∀ y ∈ l'.take i, y < m := fun y hy => hw y (List.mem_of_mem_take hy)
    generalize hse : setL m 0 (l'.take i) = s at *
    generalize l'[i] = w at *
    have hgb : ∀ j, j ≤ 8 → sW (gW m (l'.length - (i + 1)) s) j ≤ 16777216 := by
      intro j hj
      have h1 := sW_le (gW_le hm8 (k := l'.length - (i + 1)) (by omega) s) j
      exact Nat.le_trans h1 (Nat.le_trans (Nat.mul_le_mul_right _ hj) (by decide))
    refine L_block ?_
    refine L_reg [0, 1, 7, 8, 9] (fun K hK => ?_)
    simp
    apply hK; clear hK K
    refine L_block (L_loopV [7, 9] (fun k' vs H' => ∃ c : Nat, k' = w - c ∧ c ≤ w ∧ vs = [.int .i64 (a + sW (gW m (l'.length - (i + 1)) s) c : Nat), .int .i64 c] ∧ Ext H4 H') _ [.int .i64 (a : Nat), .int .i64 (0 : Nat)] rfl
      ⟨0, rfl, by omega, rfl, .refl _⟩ ?_)
    rintro k' _ H5 ⟨c, rfl, hc, rfl, hE5⟩
    have hld5 := (hE4.trans hE5).ld hldi
    have hb1 := hgb c (by omega)
    refine L_reg [0, 1, 7, 8, 9, 35] (fun K hK => ?_)
    simp [hlt, hld5]
    apply hK; clear hK K
    refine L_dec (c < w) (by simp) (fun hcw => ?_) (fun hcw => L_exit ?_)
    · have hls := (Ls.take (by simpa using hv1) (show i ≤ (l'.map Int.ofNat).length by simpa using hi) (full && i == l'.length)).ext (hE4.trans hE5)
      rw [← List.map_take] at hls
      obtain ⟨v1, H7, he1, hO1, hE7⟩ := copy_append el22 el22 hls (by simp; omega)
      obtain ⟨v2, H8, he2, hO2, hE8⟩ := ownF_append hE7 el22 el22 (x := .int .i64 (c : Nat)) (m := 1) hO1 rfl (by simp; omega)
      have hls2 : Ls H8 v2 ((l'.take i ++ [c]).map Int.ofNat) := by
        refine Own.ls ?_
        have := hO2.own
        simpa using this
      have hgc := gcount (n := m) (k := l'.length - (i + 1)) (w := c) hnsp hse
      have hgl := gW_le hm8 (k := l'.length - (i + 1)) (by omega) s c
      refine L_block ?_
      refine L_reg [0, 1, 7, 8, 9] (fun K hK => ?_)
      simp [okFn_low, row0, slice_hi sl22, hi, he1, he2, wrap_i64 (a := (l'.length : Int) - i) (by omega), wrap_i64 (a := (l'.length : Int) - i - 1) (by omega)]
      rw [show (l'.length : Int) - i - 1 = ((l'.length - (i + 1) : Nat) : Int) by omega]
      refine rcount_ac m _ v2 (l'.take i ++ [c]) _ _ hm8 (by simp; omega) (by omega) (by
        intro y hy
        rcases List.mem_append.1 hy with h | h
        · exact htw y h
        · rw [List.mem_singleton] at h; omega) hls2 ?_
      rw [hgc]
      simp [wrap_i64 (a := (a + sW (gW m (l'.length - (i + 1)) s) c : Int) + (gW m (l'.length - (i + 1)) s c : Nat)) (by omega)]
      apply hK; clear hK K
      refine L_reg [0, 1, 7, 8, 9] (fun K hK => ?_)
      simp [wrap_i64 (a := (c : Int) + 1) (by omega)]
      apply hK; clear hK K
      exact ⟨w - (c + 1), [.int .i64 (a + sW (gW m (l'.length - (i + 1)) s) (c + 1) : Nat), .int .i64 (c + 1 : Nat)], by omega, by simp [sW]; omega, c + 1, rfl, by omega, rfl, hE5.trans hE8⟩
    · have : c = w := by omega
      subst this
      refine L_reg [0, 1, 7, 8] (fun K hK => ?_)
      simp [wrap_i64 (a := (i : Int) + 1) (by omega)]
      apply hK; clear hK K
      exact ⟨l'.length - (i + 1), [.int .i64 (a + sW (gW m (l'.length - (i + 1)) s) c : Nat), .int .i64 (i + 1 : Nat)], by omega, by simp, i + 1, a + sW (gW m (l'.length - (i + 1)) s) c, rfl, by omega, by omega, by omega, rfl, hE4.trans hE5⟩
  · have : i = l'.length := by omega
    subst this
    rw [List.drop_length, numS, Nat.add_zero] at hnum
    subst hnum
    refine L_reg [4, 5] (fun K hK => ?_)
    simp
    apply hK; clear hK K
    exact L_ret ⟨.inr rfl, _, rfl, h _ (hE1.trans hE4)⟩
end Go.Proofs.Ytojblooaiojmcaa
