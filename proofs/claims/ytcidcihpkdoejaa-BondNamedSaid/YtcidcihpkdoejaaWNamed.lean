/- Holders with other numbers: the walk. -/
import Derived.Test.YtcidcihpkdoejaaNamC
namespace Go.Proofs.Ytcidcihpkdoejaa.Bo
open Go Go.Proofs.Ytcidcihpkdoejaa Go.Proofs.Ytcidcihpkdoejaa.AX
set_option maxRecDepth 100000
theorem belB_cA {N : Nat} {H : AH} {v : AV} {l : List AV} (h : OwnF N H v l) (n : Int) : belB H.length 4 (cA n v) = true := by
  rcases h with ⟨-, rfl⟩ | ⟨r, ver, stale, -, rfl, h3⟩
  · simp [belB, cA]
  · have := (List.getElem?_eq_some_iff.1 h3).1
    simp [belB, cA]; omega
theorem rule_x {N : Nat} {H : AH} {v : AV} {l : List Int} (h : OwnF N H v (l.map (.int .i64))) (n : Int) (Q : AV → AH → Prop) (hq : Q (cA n v) H) : AC Try.prog 44 [.int .i64 n, v] H Q :=
  AC.quiet (belB_cA h n) (fun Q h2 => rule_ac n v l H (ownF_ls h) Q h2) Q hq
theorem tw2 {t : TypeId} (ht : aggSz Try.prog t = some 2) (H : AH) {n : Int} {s : AV} (ho : s.one = true) (T : AH) : storeV Try.prog t (H ++ .row [.int .i64 0, .slice none 0 0 0 1 false] 0 0 false :: T) (.ptr H.length 0 0) (.agg [.int .i64 n, s]) = some (none, H ++ .row [.int .i64 n, s] 0 0 false :: T) := by
  rw [st2 ht (n' := 0) (s' := nilS) (k := 0) (by simp) (by intro h; cases h) ho]; simp
theorem tw2b {t : TypeId} (ht : aggSz Try.prog t = some 2) (H : AH) {n : Int} {s : AV} (ho : s.one = true) (A : AObj) (T : AH) : storeV Try.prog t (H ++ A :: .row [.int .i64 0, .slice none 0 0 0 1 false] 0 0 false :: T) (.ptr (H.length + 1) 0 0) (.agg [.int .i64 n, s]) = some (none, H ++ A :: .row [.int .i64 n, s] 0 0 false :: T) := by
  rw [st2 ht (n' := 0) (s' := nilS) (k := 0) (by simp) (by intro h; cases h) ho]; simp
theorem sameT_q (u v : AV) (l : List Nat) (hlen : l.length ≤ 1000000) (H : AH) (hu : Ls H u (il l)) (hv : Ls H v (il l)) (Q : AV → AH → Prop) (h : Q (.bool true) H) : AC Try.prog 22 [u, v] H Q :=
  sameN_q u v l l hlen hlen H hu hv Q (by simpa using h)
theorem ownF_ge {N : Nat} {H : AH} {v : AV} {l : List AV} (h : OwnF N H v l) {r : Nat} (hr : rowOf v = some r) : N ≤ r := by
  rcases h with ⟨-, rfl⟩ | ⟨r', ver, stale, h1, rfl, h3⟩
  · cases hr
  · cases hr; exact h1
/-- What is left and what was taken. -/
structure Lf (HB : AH) (p8 : Nat) (H : AH) (t : AV) (to left : List Nat) (rl ver : Nat) : Prop where
  keep : KeepS [p8] HB H
  cell : ∃ k, H[p8]? = some (.row [t] 0 k false)
  own : OwnF HB.length H t ((il to).map (.int .i64))
  row : ∃ s tl, H[rl]? = some (.row ((il left).map (.int .i64) ++ tl) ver s false) ∧ ∀ x ∈ (il left).map (AV.int .i64) ++ tl, x.one = true
  far : HB.length ≤ rl
  dis : rowOf t ≠ some rl
theorem Lf.old {HB : AH} {p8 : Nat} {H : AH} {t : AV} {to left : List Nat} {rl ver : Nat} (h : Lf HB p8 H t to left rl ver) {j : Nat} {o : AObj} (hj : HB[j]? = some o) (hne : j ≠ p8) : H[j]? = some o := by
  rw [h.keep.2 j (by simpa using hne) (List.getElem?_eq_some_iff.1 hj).1]; exact hj
theorem Lf.lsl {HB : AH} {p8 : Nat} {H : AH} {t : AV} {to left : List Nat} {rl ver : Nat} (h : Lf HB p8 H t to left rl ver) : Ls H (.slice (some rl) 0 left.length ver 1 false) (il left) := by
  obtain ⟨s, tl, h1, -⟩ := h.row
  refine ⟨some rl, 0, ver, 1, false, by rw [il_len], fun i hi => ⟨rl, rfl, rfl, ?_⟩⟩
  rw [ld_row h1, Nat.zero_add, List.getElem?_append_left (by simpa using hi), List.getElem?_map, List.getElem?_eq_getElem hi]
  rfl
theorem Lf.take {HB : AH} {p8 : Nat} {H : AH} {t : AV} {to left : List Nat} {rl ver : Nat} (h : Lf HB p8 H t to left rl ver) (hp : p8 < HB.length) (x : Nat) (hlen : to.length ≤ 1000) :
    ∃ t' H5 H6, aAppend Try.prog (H ++ [.row [.int .i64 (x : Int)] 0 1 false]) 22 22 t (.slice (some H.length) 0 1 0 1 false) = some (t', H5) ∧ storeV Try.prog 22 H5 (.ptr p8 0 0) t' = some (none, H6) ∧ Lf HB p8 H6 t' (to ++ [x]) left rl ver := by
  have hN := h.keep.1
  have hl : (H.take HB.length).length = HB.length := by rw [List.length_take]; omega
  have hE : Ext (H.take HB.length) H := ⟨by rw [hl]; exact hN, fun j hj => by rw [List.getElem?_take_of_lt (by omega)]⟩
  obtain ⟨t', H5, h1, h2, h3, h4, h5⟩ := ownF_appendR (m := 1) (x := .int .i64 (x : Int)) hE el22 el22 (by rw [hl]; exact h.own) rfl (by simp [il_len]; omega)
  rw [hl] at h2
  obtain ⟨k, hk⟩ := h.cell
  have hp8H : p8 < H.length := by omega
  have hrt : ∀ r, rowOf t = some r → HB.length ≤ r := fun r hr => ownF_ge h.own hr
  have hc5 : H5[p8]? = some (.row [t] 0 k false) := by rw [h4 p8 hp8H (fun e => by have := hrt p8 e; omega)]; exact hk
  obtain ⟨-, m1, -⟩ := sl_known (ownF_sl h2)
  obtain ⟨m2, -, -⟩ := sl_known (ownF_sl h.own)
  have hst := store_row (P := Try.prog) (u := 22) (p := 0) sc22 (x := t') (y := t) m1 hc5 (by simpa using m2)
  refine ⟨t', H5, _, h1, hst, ⟨by rw [List.length_set]; have := h3.1; omega, fun j hj hjl => ?_⟩, ⟨_, get_set hc5⟩, ownF_set (by simpa [il] using h2) hp _, ?_, h.far, ?_⟩
  · rw [List.getElem?_set_ne (fun e => hj (by rw [← e]; simp)), h4 j (by omega) (fun e => by have := hrt j e; omega), h.keep.2 j hj hjl]
  · obtain ⟨s, tl, r1, r2⟩ := h.row
    refine ⟨s, tl, ?_, r2⟩
    have hfar := h.far
    rw [List.getElem?_set_ne (by omega), h4 rl (List.getElem?_eq_some_iff.1 r1).1 h.dis]; exact r1
  · intro e
    rcases h5 rl e with e2 | e2
    · exact h.dis e2
    · obtain ⟨s, tl, r1, -⟩ := h.row
      have := (List.getElem?_eq_some_iff.1 r1).1; omega
theorem map_erase {α β : Type} (f : α → β) : ∀ (l : List α) (k : Nat), (l.map f).eraseIdx k = (l.eraseIdx k).map f
  | [], _ => by simp
  | a :: l, 0 => by simp
  | a :: l, k + 1 => by simp [map_erase f l k]
theorem Lf.drop {HB : AH} {p8 : Nat} {H H' : AH} {t : AV} {to left : List Nat} {rl ver : Nat} (h : Lf HB p8 H t to left rl ver) (hp : p8 < HB.length) {k s' : Nat} {tl' : List AV} (hr : H'[rl]? = some (.row (((il left).eraseIdx k).map (.int .i64) ++ tl') ver s' false)) (ho : ∀ x ∈ ((il left).eraseIdx k).map (AV.int .i64) ++ tl', x.one = true) (hl : H'.length = H.length) (hk : ∀ j, j ≠ rl → H'[j]? = H[j]?) : Lf HB p8 H' t to (left.eraseIdx k) rl ver := by
  have he : (il left).eraseIdx k = il (left.eraseIdx k) := map_erase _ _ _
  rw [he] at hr ho
  have hfar := h.far
  refine ⟨⟨by rw [hl]; exact h.keep.1, fun j hj hjl => by rw [hk j (by omega), h.keep.2 j hj hjl]⟩, ?_, ?_, ⟨s', tl', hr, ho⟩, h.far, h.dis⟩
  · obtain ⟨k8, h8⟩ := h.cell
    exact ⟨k8, by rw [hk p8 (by omega)]; exact h8⟩
  · rcases h.own with h1 | ⟨r, ver2, st, h1, h2, h3⟩
    · exact .inl h1
    · refine .inr ⟨r, ver2, st, h1, h2, ?_⟩
      rw [hk r (fun e => h.dis (by rw [h2, e]; rfl))]; exact h3
theorem perm_erase : ∀ {l : List Nat} {k : Nat} (hk : k < l.length), (l[k] :: l.eraseIdx k).Perm l
  | a :: l, 0, _ => by simp
  | a :: l, k + 1, hk => by
    have ih := perm_erase (l := l) (k := k) (by simpa using hk)
    simp only [List.getElem_cons_succ, List.eraseIdx_cons_succ]
    exact (List.Perm.swap a (l[k]'(by simpa using hk)) _).trans (ih.cons a)
theorem perm_take {to left : List Nat} {n k : Nat} (h : (to ++ left).Perm (List.range n)) (hk : k < left.length) : ((to ++ [left[k]]) ++ left.eraseIdx k).Perm (List.range n) := by
  refine List.Perm.trans ?_ h
  rw [List.append_assoc]
  exact List.Perm.append_left to (perm_erase hk)
theorem tw2c {t : TypeId} (ht : aggSz Try.prog t = some 2) (H : AH) {n : Int} {s : AV} (ho : s.one = true) (A B : AObj) (T : AH) : storeV Try.prog t (H ++ A :: B :: .row [.int .i64 0, .slice none 0 0 0 1 false] 0 0 false :: T) (.ptr (H.length + 2) 0 0) (.agg [.int .i64 n, s]) = some (none, H ++ A :: B :: .row [.int .i64 n, s] 0 0 false :: T) := by
  rw [st2 ht (n' := 0) (s' := nilS) (k := 0) (by simp) (by intro h; cases h) ho]; simp
theorem kl_ix {H : AH} {v : AV} {n : Nat} {f : Nat → Nat} (h : Ls H v (kL n f)) {i : Nat} (hi : i < n) : ∃ r p ver, (∀ k, aIndexAddr Try.prog 22 v (.int k (i : Int)) = some (.ptr r p ver)) ∧ ld H r p ver = some (.int .i64 (f i : Nat)) := by
  obtain ⟨r, p, ver, h1, h2⟩ := ls_ix h (i := i) (by rw [kL_len]; exact hi)
  exact ⟨r, p, ver, h1, by rw [h2]; simp [kL]⟩
theorem il_perm {l m : List Nat} (h : l.Perm m) : (il l).Perm (il m) := h.map _
theorem il_sorted {l : List Nat} (h : l.Pairwise (· < ·)) : (il l).Pairwise (· < ·) := by
  unfold il
  rw [List.pairwise_map]
  exact h.imp (by intro a b h; omega)
/-- A list with other numbers, then sorted. -/
theorem pair_x {n : Nat} (hn : n ≤ 6) {to : List Nat} (hR : Re n to) {B D : List Nat} (hB : okG (2 ^ n) B) (hBl : B.length ≤ 64) (hD : D.Pairwise (· < ·)) (hP : (mvL n to B).Perm D) {u t : AV} {p5 p8 k5 k8 : Nat} {G : AH} (hu : Ls G u (il B)) (h5 : G[p5]? = some (.row [.int .i64 n] 0 k5 false)) (h8 : G[p8]? = some (.row [t] 0 k8 false)) (ht : Ls G t (il to)) :
    ∃ G1 y1 G2 y2, Ext G G1 ∧ Ext G1 G2 ∧ (∀ Q : AV → AH → Prop, Q y1 G1 → AC Try.prog 58 [u, .ptr p5 0 0, .ptr p8 0 0] G Q) ∧ (∀ Q : AV → AH → Prop, Q y2 G2 → AC Try.prog 59 [y1] G1 Q) ∧ Ls G2 y2 (il D) := by
  have hl : (il (mvL n to B)).length ≤ 127 := by simp [il_len, mvL]; omega
  refine ⟨chH G (il (mvL n to B)), chV G (il (mvL n to B)), chH (chH G (il (mvL n to B))) (il D), chV (chH G (il (mvL n to B))) (il D), chE _ _, chE _ _, fun Q hQ => AC.tidyN (fun Q h => moved_n hn hR B hB (by omega) G hu h5 h8 ht Q h) Q hQ, fun Q hQ => AC.tidyN (fun Q h => sorted_n hl (il_sorted hD) (il_perm hP).symm _ (ownF_ls (chO _ _)) (fun e => by rw [chV, if_pos e]) Q h) Q hQ, ownF_ls (chO _ _)⟩
set_option maxHeartbeats 8000000 in
theorem named_ac {b : List Nat} (hb : Sb b) (o : List Nat) (hol : o.length = 6) (ho256 : ∀ x ∈ o, x < 256) (H : AH) : AC Try.prog 12 [.agg (sV b), .agg (sV o)] H fun v _ => v = .bool true := by
  refine L_body 176 Try.func12 rfl rfl ?_
  obtain ⟨I, hI, hz⟩ := zeroT_some zt24
  obtain ⟨J, hJ, hzJ⟩ := zeroT_some zt40
  obtain ⟨I2, hI2, hz2⟩ := zeroT_some zt22
  obtain ⟨I3, hI3, hz3⟩ := zeroT_some zt3
  refine L_reg [2, 3] (fun K hK => ?_)
  simp [AV.isU, acells]
  apply hK; clear hK K
  have r1 : (H ++ [AObj.row (sV b) 0 0 false, AObj.row (sV o) 0 0 false])[H.length]? = some (.row (sV b) 0 0 false) := by simp
  have r2 : (H ++ [AObj.row (sV b) 0 0 false, AObj.row (sV o) 0 0 false])[H.length + 1]? = some (.row (sV o) 0 0 false) := by simp
  generalize H ++ [AObj.row (sV b) 0 0 false, AObj.row (sV o) 0 0 false] = H1 at r1 r2 ⊢
  generalize H.length + 1 = p3 at r2 ⊢
  have a1 := ldn_sV hb.len r1
  refine L_reg [3, 5, 6] (fun K hK => ?_)
  simp [okFn_low, a1]
  refine made_ac (most := 6) (by decide) (by decide) hb _ _ (fun v H2 hO hE2 => ?_)
  have hst := store_row (P := Try.prog) (u := 3) (p := 0) (r := H2.length) (H := H2 ++ [AObj.row [.int .i64 0] 0 0 false]) (c := [.int .i64 0]) (v := 0) (s := 0) sc3 (x := .int .i64 (sN 6 b : Nat)) (y := .int .i64 0) rfl (by simp) rfl
  simp [hI3, hz3, hst]
  apply hK; clear hK K
  have hr := okS (most := 6) (by decide) (by decide) hb.len
  have hll := sL_len 6 hb.len
  have hm9 := Nat.mod_lt b[1]! (show 0 < 9 by decide)
  generalize sN 6 b = n at hr hst ⊢
  generalize sL 6 b = l at hr hll hO ⊢
  have r2 : H2[p3]? = some (.row (sV o) 0 0 false) := by rw [hE2.2 _ (List.getElem?_eq_some_iff.1 r2).1]; exact r2
  have hp32 := (List.getElem?_eq_some_iff.1 r2).1
  clear a1 r1 hE2 hst
  refine L_reg [3, 5, 6, 7, 8] (fun K hK => ?_)
  simp [hI2, hz2]
  apply hK; clear hK K
  have g5 : (H2 ++ [AObj.row [.int .i64 (n : Int)] 0 0 false, AObj.row [nilS] 0 0 false])[H2.length]? = some (.row [.int .i64 n] 0 0 false) := by simp
  have g8 : (H2 ++ [AObj.row [.int .i64 (n : Int)] 0 0 false, AObj.row [nilS] 0 0 false])[H2.length + 1]? = some (.row [nilS] 0 0 false) := by simp
  have hO := ownF_ext hO (.push H2 [AObj.row [.int .i64 (n : Int)] 0 0 false, AObj.row [nilS] 0 0 false])
  have r2 : (H2 ++ [AObj.row [.int .i64 (n : Int)] 0 0 false, AObj.row [nilS] 0 0 false])[p3]? = some (.row (sV o) 0 0 false) := by rw [List.getElem?_append_left (List.getElem?_eq_some_iff.1 r2).1]; exact r2
  obtain ⟨p8, hp8⟩ : ∃ p8, H2.length + 1 = p8 := ⟨_, rfl⟩
  obtain ⟨p5, hp5⟩ : ∃ p5, H2.length = p5 := ⟨_, rfl⟩
  rw [hp8] at g8
  rw [hp5] at g5
  try rw [hp8]
  try rw [hp5]
  generalize H2 ++ [AObj.row [.int .i64 (n : Int)] 0 0 false, AObj.row [nilS] 0 0 false] = HB at g5 g8 hO r2 ⊢
  have hp8l := (List.getElem?_eq_some_iff.1 g8).1
  have hp3 : p3 < p5 := by omega
  have hp58 : p5 < p8 := by omega
  have f5 : ld HB p5 0 0 = some (.int .i64 n) := by rw [ld_row g5]; rfl
  have hn1 := hr.n1
  have hn6 := hr.n6
  refine L_reg [3, 5, 6, 7, 8, 32, 33] (fun K hK => ?_)
  simp [f5]
  apply hK; clear hK K
  refine L_block (L_loopV [7, 33] (fun q vs H' => ∃ (i : Nat) (w : AV), q = n - i ∧ i ≤ n ∧ vs = [w, .int .i64 i] ∧ Ext HB H' ∧ OwnF HB.length H' w ((il (List.range i)).map (.int .i64))) _ [nilS, .int .i64 (0 : Nat)] rfl ⟨0, _, rfl, by omega, rfl, .refl _, OwnF.nil _ _⟩ ?_)
  rintro q _ H3 ⟨i, w, rfl, hi, rfl, hE3, ho⟩
  refine L_reg [3, 5, 6, 7, 8, 32, 33, 34] (fun K hK => ?_)
  simp
  apply hK; clear hK K
  refine L_dec (i < n) (by simp) (fun hlt => ?_) (fun hge => L_exit ?_)
  · refine L_block ?_
    refine L_reg [3, 5, 6, 7, 8, 9, 32, 33] (fun K hK => ?_)
    simp
    apply hK; clear hK K
    obtain ⟨w', H4, happ, ho4, hE4⟩ := ownF_append (P := Try.prog) (m := 1) (x := .int .i64 (i : Nat)) hE3 el22 el22 ho rfl (by simp [il_len]; omega)
    refine L_reg [3, 5, 6, 7, 8, 32, 33] (fun K hK => ?_)
    simp [happ]
    apply hK; clear hK K
    refine L_reg [3, 5, 6, 7, 8, 32, 33] (fun K hK => ?_)
    simp [wrap_i64 (a := (i : Int) + 1) (by omega)]
    apply hK; clear hK K
    refine ⟨n - (i + 1), [w', .int .i64 (i + 1 : Nat)], by omega, by simp, i + 1, w', rfl, by omega, rfl, hE4, ?_⟩
    rw [List.range_succ, nats_snoc]; exact ho4
  have e : i = n := by omega
  subst e
  have f53 : ld H3 p5 0 0 = some (.int .i64 i) := by rw [ld_row (s := 0) (ro := false) (by rw [hE3.2 _ (List.getElem?_eq_some_iff.1 g5).1]; exact g5)]; rfl
  obtain ⟨rl, ver, hwe, hL0⟩ : ∃ rl ver, w = .slice (some rl) 0 (List.range i).length ver 1 false ∧ Lf HB p8 H3 nilS [] (List.range i) rl ver := by
    rcases ho with ⟨h0, -⟩ | ⟨rl, ver, st, h1, h2, h3⟩
    · have : i = 0 := by simpa [il] using h0
      omega
    · refine ⟨rl, ver, by rw [h2]; simp [il], ⟨hE3.1, fun j _ hj => hE3.2 j hj⟩, ⟨0, by rw [hE3.2 _ hp8l]; exact g8⟩, OwnF.nil _ _, ⟨st, [], by rw [List.append_nil]; exact h3, fun x hx => ?_⟩, h1, by intro h; cases h⟩
      rw [List.append_nil] at hx
      obtain ⟨z, -, rfl⟩ := List.mem_map.1 hx
      rfl
  subst hwe
  refine L_reg [3, 5, 6, 7, 8, 41, 42] (fun K hK => ?_)
  simp [f53]
  apply hK; clear hK K
  refine L_block (L_loopV [7, 42] (fun q vs H' => ∃ (h : Nat) (t : AV) (to left : List Nat), q = i - h ∧ h ≤ i ∧ vs = [.slice (some rl) 0 left.length ver 1 false, .int .i64 h] ∧ Lf HB p8 H' t to left rl ver ∧ to.length = h ∧ (to ++ left).Perm (List.range i)) _ [.slice (some rl) 0 (List.range i).length ver 1 false, .int .i64 (0 : Nat)] (by simp) ⟨0, nilS, [], List.range i, rfl, by omega, rfl, hL0, rfl, by simp⟩ ?_)
  clear hL0 ho f53 hE3 H3
  rintro q _ H3 ⟨h, t, to, left, rfl, hh, rfl, hL, htl, hperm⟩
  have hlen : to.length + left.length = i := by
    have := hperm.length_eq
    simpa using this
  refine L_reg [3, 5, 6, 7, 8, 41, 42, 43] (fun K hK => ?_)
  simp
  apply hK; clear hK K
  refine L_dec (h < i) (by simp) (fun hlt => ?_) (fun hge => L_exit ?_)
  · refine L_block ?_
    have hr3 := hL.old r2 (by omega)
    have hld := ld_sV hr3 (i := h) (by omega)
    have hx256 : o[h]'(by omega) < 256 := ho256 _ (List.getElem_mem _)
    generalize o[h]'(by omega) = x at hld hx256
    have hq := rem_nat x left.length
    have hl0 : left.length ≠ 0 := by omega
    have hkl := Nat.mod_lt x (show 0 < left.length by omega)
    obtain ⟨k, hk⟩ : ∃ k, x % left.length = k := ⟨_, rfl⟩
    rw [hk] at hq hkl
    have hh6 : (h : Int) < 6 := by omega
    refine L_reg [3, 5, 6, 7, 8, 10, 41, 42] (fun K hK => ?_)
    simp
    apply hK; clear hK K
    refine L_reg [3, 5, 6, 7, 8, 11, 41, 42] (fun K hK => ?_)
    simp [hh6, hld, wrap_i64 (a := (x : Int)) (by omega), hl0, hq]
    apply hK; clear hK K
    obtain ⟨rz, pz, vz, hix, hldz⟩ := il_ix hL.lsl hkl
    have hpm := perm_take hperm hkl
    have hkl2 := hkl
    generalize hye : left[k] = y at hldz hpm
    obtain ⟨t', H5, H6, happ, hst, hL6⟩ := hL.take hp8l y (by omega)
    obtain ⟨k8, hc8⟩ := hL.cell
    have f8 : ld H3 p8 0 0 = some t := by rw [ld_row hc8]; simpa using (sl_known (ownF_sl hL.own)).1
    have hki : (k : Int) < (left.length : Int) := by omega
    refine L_regU mixed [true, false, false, false, false, false] [3, 5, 6, 7, 8, 11, 41, 42] (by kernel_rfl) (fun K hK => ?_)
    simp [f8, hix, hldz, happ, hst]
    refine ⟨.push _ _, ?_⟩
    apply hK; clear hK K
    obtain ⟨s6, tl6, row6, one6⟩ := hL6.row
    refine L_reg [3, 5, 6, 7, 8, 41, 42] (fun K hK => ?_)
    have hkw : IntKind.i64.wrap ((k : Int) + 1) = (k : Int) + 1 := wrap_i64 (by omega)
    have hDel := Delete_ac rl ver s6 tl6 (il left) k H6
    rw [il_len] at hDel
    simp [okFn_low, hkw]
    refine hDel _ hkl (by omega) row6 one6 (fun H7 s7 tl7 q1 q2 q3 q4 => ?_)
    simp
    apply hK; clear hK K
    have hL7 := hL6.drop hp8l q1 q2 q3 q4
    have hle : (left.eraseIdx k).length = left.length - 1 := by rw [List.length_eraseIdx_of_lt hkl]
    refine L_reg [3, 5, 6, 7, 8, 41, 42] (fun K hK => ?_)
    simp [wrap_i64 (a := (h : Int) + 1) (by omega)]
    apply hK; clear hK K
    refine ⟨i - (h + 1), [.slice (some rl) 0 (left.eraseIdx k).length ver 1 false, .int .i64 (h + 1 : Nat)], by omega, by rw [hle]; simp, h + 1, t', to ++ [y], left.eraseIdx k, rfl, by omega, rfl, hL7, by simp; omega, hpm⟩
  have e : h = i := by omega
  have hl0 : left = [] := List.length_eq_zero_iff.1 (by omega)
  rw [hl0, List.append_nil] at hperm
  have hR : Re i to := ⟨by omega, hperm⟩
  obtain ⟨k8, hc8⟩ := hL.cell
  have g53 := hL.old g5 (by omega)
  have lt3 := ownF_ls hL.own
  have lv3 : OwnF 0 H3 v ((il l).map (.int .i64)) := by
    rcases hO with h | ⟨r, vv, st, h1, h2, h3⟩
    · exact .inl h
    · have hpr : r ≠ p8 := fun e => by rw [e, g8] at h3; cases l <;> simp [il] at h3
      exact .inr ⟨r, vv, st, Nat.zero_le _, h2, hL.old h3 hpr⟩
  clear hL hperm hO g5 g8 r2 hlen htl hh hge e hl0 hp8l
  obtain ⟨L2, hL2⟩ : ∃ L2, mvL i to l = L2 := ⟨_, rfl⟩
  have hr2 : OkR i L2 := ⟨hr.n1, hr.n6, by rw [← hL2]; simpa [mvL] using hr.len, by rw [← hL2]; intro o ho; obtain ⟨z, hz, rfl⟩ := List.mem_map.1 ho; exact hR.mlt z⟩
  have hlv3 := ownF_ls lv3
  have hone := ls_one hlv3
  have f5 : ∀ T, ld (H3 ++ T) p5 0 0 = some (.int .i64 i) := fun T => by rw [ld_row (s := 0) (ro := false) (by rw [List.getElem?_append_left (List.getElem?_eq_some_iff.1 g53).1]; exact g53)]; rfl
  have f50 : ld H3 p5 0 0 = some (.int .i64 i) := by rw [ld_row g53]; rfl
  have hM0 : ∀ (H' : AH), Ext H3 H' → ∀ Q : AV → AH → Prop, Q (chV H' (il L2)) (chH H' (il L2)) → AC Try.prog 58 [v, .ptr p5 0 0, .ptr p8 0 0] H' Q := fun H' hE Q hQ => AC.tidyN (fun Q h => moved_n hr.n6 hR l hr.ok (by have := hr.len; omega) H' (hlv3.ext hE) (by rw [hE.2 _ (List.getElem?_eq_some_iff.1 g53).1]; exact g53) (by rw [hE.2 _ (List.getElem?_eq_some_iff.1 hc8).1]; exact hc8) (lt3.ext hE) Q (by rw [hL2]; exact h)) Q hQ
  refine L_reg [5, 6, 8, 12] (fun K hK => ?_)
  simp
  apply hK; clear hK K
  refine L_reg [5, 6, 8, 12, 13] (fun K hK => ?_)
  simp
  apply hK; clear hK K
  refine L_regR mixed (fun K hK => ?_)
  have hfin : ∀ (H8 : AH) (q14 q15 : Nat) (w : AV), Ext H3 H8 → H8[q14]? = some (.row [.int .i64 i, v] 0 0 false) → H8[q15]? = some (.row [.int .i64 i, w] 0 0 false) → OwnF 0 H8 w ((il L2).map (.int .i64)) → K .normal [(5, .ptr p5 0 0), (8, .ptr p8 0 0), (12, .func (.func 58) [] [.ptr p5 0 0, .ptr p8 0 0]), (13, .func (.func 59) [] []), (14, .ptr q14 0 0), (15, .ptr q15 0 0)] H8 := by
    intro H8 q14 q15 w hE8 gr gs hw
    apply hK; clear hK K
    have lv := hlv3.ext hE8
    have lw := ownF_ls hw
    have lt := lt3.ext hE8
    have g5 : H8[p5]? = some (.row [.int .i64 i] 0 0 false) := by rw [hE8.2 _ (List.getElem?_eq_some_iff.1 g53).1]; exact g53
    have g8 : H8[p8]? = some (.row [t] 0 k8 false) := by rw [hE8.2 _ (List.getElem?_eq_some_iff.1 hc8).1]; exact hc8
    clear hE8 hw hM0 f5 f50 g53 hc8 lt3 lv3 hlv3
    have hkv := ls_known lv
    have hkw := ls_known lw
    have cr := ldn_c gr hkv
    refine L_reg [5, 8, 12, 13, 14, 15, 16, 17] (fun K hK => ?_)
    simp [okFn_low, cr]
    refine Barred_ok hr v _ lv _ (fun y G1 hOy hEG1 => ?_)
    simp
    apply hK; clear hK K
    have g5 : G1[p5]? = some (.row [.int .i64 i] 0 0 false) := by rw [hEG1.2 _ (List.getElem?_eq_some_iff.1 g5).1]; exact g5
    have g8 : G1[p8]? = some (.row [t] 0 k8 false) := by rw [hEG1.2 _ (List.getElem?_eq_some_iff.1 g8).1]; exact g8
    have lv := lv.ext hEG1
    have lw := lw.ext hEG1
    have lt := lt.ext hEG1
    have gr : G1[q14]? = some (.row [.int .i64 i, v] 0 0 false) := by rw [hEG1.2 _ (List.getElem?_eq_some_iff.1 gr).1]; exact gr
    have gs : G1[q15]? = some (.row [.int .i64 i, w] 0 0 false) := by rw [hEG1.2 _ (List.getElem?_eq_some_iff.1 gs).1]; exact gs
    have ly := (ownF_ls hOy)
    have cr := ldn_c gs hkw
    refine L_reg [5, 8, 12, 13, 14, 15, 16, 17, 18, 19] (fun K hK => ?_)
    simp [okFn_low, cr]
    refine Barred_ok hr2 w _ lw _ (fun z G2 hOz hEG2 => ?_)
    simp
    apply hK; clear hK K
    have g5 : G2[p5]? = some (.row [.int .i64 i] 0 0 false) := by rw [hEG2.2 _ (List.getElem?_eq_some_iff.1 g5).1]; exact g5
    have g8 : G2[p8]? = some (.row [t] 0 k8 false) := by rw [hEG2.2 _ (List.getElem?_eq_some_iff.1 g8).1]; exact g8
    have lv := lv.ext hEG2
    have lw := lw.ext hEG2
    have lt := lt.ext hEG2
    have ly := ly.ext hEG2
    have gr : G2[q14]? = some (.row [.int .i64 i, v] 0 0 false) := by rw [hEG2.2 _ (List.getElem?_eq_some_iff.1 gr).1]; exact gr
    have gs : G2[q15]? = some (.row [.int .i64 i, w] 0 0 false) := by rw [hEG2.2 _ (List.getElem?_eq_some_iff.1 gs).1]; exact gs
    have lz := (ownF_ls hOz)
    have cr := ldn_c gr hkv
    refine L_reg [5, 8, 12, 13, 15, 16, 17, 18, 19, 20, 21] (fun K hK => ?_)
    simp [okFn_low, cr]
    refine Make_ok hr v _ lv _ (fun m G3 hOm hEG3 => ?_)
    have hstgm := st2 (t := 40) ag40 (n := i) (s := m) (k := 0) (n' := 0) (s' := nilS) (p := G3.length) (H := G3 ++ [AObj.row [.int .i64 0, nilS] 0 0 false]) (by simp) (by intro h; cases h) (ls_one (ownF_ls hOm))
    simp [hJ, hzJ, hstgm, cA]
    apply hK; clear hK K
    have gm : (G3 ++ [AObj.row [.int .i64 i, m] 0 0 false])[G3.length]? = some (.row [.int .i64 i, m] 0 0 false) := by simp
    have hPgm : Ext G3 (G3 ++ [AObj.row [.int .i64 i, m] 0 0 false]) := .push _ _
    have hQgm := hEG3.trans hPgm
    have g5 : (G3 ++ [AObj.row [.int .i64 i, m] 0 0 false])[p5]? = some (.row [.int .i64 i] 0 0 false) := by rw [hQgm.2 _ (List.getElem?_eq_some_iff.1 g5).1]; exact g5
    have g8 : (G3 ++ [AObj.row [.int .i64 i, m] 0 0 false])[p8]? = some (.row [t] 0 k8 false) := by rw [hQgm.2 _ (List.getElem?_eq_some_iff.1 g8).1]; exact g8
    have lv := lv.ext hQgm
    have lw := lw.ext hQgm
    have lt := lt.ext hQgm
    have ly := ly.ext hQgm
    have lz := lz.ext hQgm
    have gr : (G3 ++ [AObj.row [.int .i64 i, m] 0 0 false])[q14]? = some (.row [.int .i64 i, v] 0 0 false) := by rw [hQgm.2 _ (List.getElem?_eq_some_iff.1 gr).1]; exact gr
    have gs : (G3 ++ [AObj.row [.int .i64 i, m] 0 0 false])[q15]? = some (.row [.int .i64 i, w] 0 0 false) := by rw [hQgm.2 _ (List.getElem?_eq_some_iff.1 gs).1]; exact gs
    have lm := (ownF_ls hOm).ext hPgm
    clear hstgm
    generalize G3 ++ [AObj.row [.int .i64 i, m] 0 0 false] = G4 at *
    generalize G3.length = pgm at *
    have cr := ldn_c gs hkw
    refine L_reg [5, 8, 12, 13, 16, 17, 18, 19, 20, 21, 22, 23] (fun K hK => ?_)
    simp [okFn_low, cr]
    refine Make_ok hr2 w _ lw _ (fun q G5 hOq hEG5 => ?_)
    have hstgq := st2 (t := 40) ag40 (n := i) (s := q) (k := 0) (n' := 0) (s' := nilS) (p := G5.length) (H := G5 ++ [AObj.row [.int .i64 0, nilS] 0 0 false]) (by simp) (by intro h; cases h) (ls_one (ownF_ls hOq))
    simp [hJ, hzJ, hstgq, cA]
    apply hK; clear hK K
    have gq : (G5 ++ [AObj.row [.int .i64 i, q] 0 0 false])[G5.length]? = some (.row [.int .i64 i, q] 0 0 false) := by simp
    have hPgq : Ext G5 (G5 ++ [AObj.row [.int .i64 i, q] 0 0 false]) := .push _ _
    have hQgq := hEG5.trans hPgq
    have g5 : (G5 ++ [AObj.row [.int .i64 i, q] 0 0 false])[p5]? = some (.row [.int .i64 i] 0 0 false) := by rw [hQgq.2 _ (List.getElem?_eq_some_iff.1 g5).1]; exact g5
    have g8 : (G5 ++ [AObj.row [.int .i64 i, q] 0 0 false])[p8]? = some (.row [t] 0 k8 false) := by rw [hQgq.2 _ (List.getElem?_eq_some_iff.1 g8).1]; exact g8
    have lv := lv.ext hQgq
    have lw := lw.ext hQgq
    have lt := lt.ext hQgq
    have ly := ly.ext hQgq
    have lz := lz.ext hQgq
    have lm := lm.ext hQgq
    have gr : (G5 ++ [AObj.row [.int .i64 i, q] 0 0 false])[q14]? = some (.row [.int .i64 i, v] 0 0 false) := by rw [hQgq.2 _ (List.getElem?_eq_some_iff.1 gr).1]; exact gr
    have gs : (G5 ++ [AObj.row [.int .i64 i, q] 0 0 false])[q15]? = some (.row [.int .i64 i, w] 0 0 false) := by rw [hQgq.2 _ (List.getElem?_eq_some_iff.1 gs).1]; exact gs
    have gm : (G5 ++ [AObj.row [.int .i64 i, q] 0 0 false])[pgm]? = some (.row [.int .i64 i, m] 0 0 false) := by rw [hQgq.2 _ (List.getElem?_eq_some_iff.1 gm).1]; exact gm
    have lq := (ownF_ls hOq).ext hPgq
    clear hstgq
    generalize G5 ++ [AObj.row [.int .i64 i, q] 0 0 false] = G6 at *
    generalize G5.length = pgq at *
    have c1 := ld_c1 gm (ls_known lm)
    have c2 := ld_c1 gq (ls_known lq)
    have hpN : 2 ^ i ≤ 64 := pw64 hr.n6
    have hBm := most_ok (2 ^ i) (within l)
    have hBl : (mostS (2 ^ i) (within l)).length ≤ 64 := Nat.le_trans (most_len _ _) hpN
    have hBl2 : (mostS (2 ^ i) (within L2)).length ≤ 64 := Nat.le_trans (most_len _ _) hpN
    have hKm : okG (2 ^ i) (locksS i l) := locks_ok i l
    have hKl : (locksS i l).length ≤ 64 := Nat.le_trans (least_len _ _) hpN
    have hKm2 : okG (2 ^ i) (locksS i L2) := locks_ok i L2
    have hKl2 : (locksS i L2).length ≤ 64 := Nat.le_trans (least_len _ _) hpN
    have hPm : (mvL i to (mostS (2 ^ i) (within l))).Perm (mostS (2 ^ i) (within L2)) := by rw [← hL2]; exact hR.mostP hr.ok
    have hPk : (mvL i to (locksS i l)).Perm (locksS i L2) := by rw [← hL2]; exact hR.locksP hr.ok
    have hkey : ∀ j, j < i → keyS (locksS i L2) (to[j]!) = keyS (locksS i l) j := fun j hj => by rw [← hL2]; exact hR.keys hr.ok hj
    obtain ⟨G1, y1, G2, y2, e1, e2, A1, A2, l2⟩ := pair_x hr.n6 hR hBm hBl (most_sorted _ _) hPm ly g5 g8 lt
    have e12 := e1.trans e2
    obtain ⟨G3, y3, G4, y4, e3, e4, A3, A4, l4⟩ := pair_x hr.n6 hR hKm hKl (least_sorted _ _) hPk (lm.ext e12) (by rw [e12.2 _ (List.getElem?_eq_some_iff.1 g5).1]; exact g5) (by rw [e12.2 _ (List.getElem?_eq_some_iff.1 g8).1]; exact g8) (lt.ext e12)
    have e34 := e12.trans (e3.trans e4)
    refine L_regY mixed [5, 8, 20, 22, 129] (by kernel_rfl) (fun K hK => ?_)
    simp [okFn_low, pickV]
    refine exX_mk (fun Q hQ => A1 Q hQ) e1 ?_
    simp [okFn_low]
    refine exX_mk (fun Q hQ => A2 Q hQ) e2 ?_
    simp [okFn_low]
    refine exX_mk (fun Q hQ => sameT_q y2 z (mostS (2 ^ i) (within L2)) (by omega) _ l2 (lz.ext e12) Q hQ) (.refl _) ?_
    simp [okFn_low, pickV, c1]
    refine exX_mk (fun Q hQ => A3 Q hQ) e3 ?_
    simp [okFn_low]
    refine exX_mk (fun Q hQ => A4 Q hQ) e4 ?_
    simp [okFn_low, c2]
    refine exX_mk (fun Q hQ => sameT_q y4 q (locksS i L2) (by omega) _ l4 (lq.ext e34) Q hQ) (.refl _) ?_
    simp [pickV]
    apply hK; clear hK K
    refine L_false rfl ?_
    have lm := lm.ext e34
    have lq := lq.ext e34
    have lt := lt.ext e34
    have g5 : G4[p5]? = some (.row [.int .i64 i] 0 0 false) := by rw [e34.2 _ (List.getElem?_eq_some_iff.1 g5).1]; exact g5
    have g8 : G4[p8]? = some (.row [t] 0 k8 false) := by rw [e34.2 _ (List.getElem?_eq_some_iff.1 g8).1]; exact g8
    have gm : G4[pgm]? = some (.row [.int .i64 i, m] 0 0 false) := by rw [e34.2 _ (List.getElem?_eq_some_iff.1 gm).1]; exact gm
    have gq : G4[pgq]? = some (.row [.int .i64 i, q] 0 0 false) := by rw [e34.2 _ (List.getElem?_eq_some_iff.1 gq).1]; exact gq
    have hrk : OkR i (locksS i l) := ⟨hr.n1, hr.n6, hKl, hKm⟩
    have hrk2 : OkR i (locksS i L2) := ⟨hr.n1, hr.n6, hKl2, hKm2⟩
    have hkm := ls_known lm
    have hkq := ls_known lq
    clear A1 A2 A3 A4 e12 e34 e1 e2 e3 e4 c1 c2 l2 l4
    have cr := ldn_c gm hkm
    refine L_reg [5, 8, 17, 22, 24] (fun K hK => ?_)
    simp [okFn_low, cr]
    refine Keys_ok hrk m _ lm _ (fun a G11 hOa hEG11 => ?_)
    simp
    apply hK; clear hK K
    have g5 : G11[p5]? = some (.row [.int .i64 i] 0 0 false) := by rw [hEG11.2 _ (List.getElem?_eq_some_iff.1 g5).1]; exact g5
    have g8 : G11[p8]? = some (.row [t] 0 k8 false) := by rw [hEG11.2 _ (List.getElem?_eq_some_iff.1 g8).1]; exact g8
    have lm := lm.ext hEG11
    have lq := lq.ext hEG11
    have lt := lt.ext hEG11
    have gm : G11[pgm]? = some (.row [.int .i64 i, m] 0 0 false) := by rw [hEG11.2 _ (List.getElem?_eq_some_iff.1 gm).1]; exact gm
    have gq : G11[pgq]? = some (.row [.int .i64 i, q] 0 0 false) := by rw [hEG11.2 _ (List.getElem?_eq_some_iff.1 gq).1]; exact gq
    have la := (ownF_ls hOa)
    have cr := ldn_c gq hkq
    refine L_reg [5, 8, 17, 19, 24, 25] (fun K hK => ?_)
    simp [okFn_low, cr]
    refine Keys_ok hrk2 q _ lq _ (fun c G12 hOc hEG12 => ?_)
    simp
    apply hK; clear hK K
    have g5 : G12[p5]? = some (.row [.int .i64 i] 0 0 false) := by rw [hEG12.2 _ (List.getElem?_eq_some_iff.1 g5).1]; exact g5
    have g8 : G12[p8]? = some (.row [t] 0 k8 false) := by rw [hEG12.2 _ (List.getElem?_eq_some_iff.1 g8).1]; exact g8
    have lm := lm.ext hEG12
    have lq := lq.ext hEG12
    have lt := lt.ext hEG12
    have la := la.ext hEG12
    have gm : G12[pgm]? = some (.row [.int .i64 i, m] 0 0 false) := by rw [hEG12.2 _ (List.getElem?_eq_some_iff.1 gm).1]; exact gm
    have gq : G12[pgq]? = some (.row [.int .i64 i, q] 0 0 false) := by rw [hEG12.2 _ (List.getElem?_eq_some_iff.1 gq).1]; exact gq
    have lc := (ownF_ls hOc)
    have f5 : ld G12 p5 0 0 = some (.int .i64 i) := by rw [ld_row g5]; rfl
    have lna := ls_len la
    have lnc := ls_len lc
    rw [kL_len] at lna lnc
    refine L_reg [5, 8, 24, 25, 157] (fun K hK => ?_)
    simp [f5, lna, lnc, pickV]
    apply hK; clear hK K
    refine L_false rfl ?_
    refine L_reg [8, 24, 25, 158, 159] (fun K hK => ?_)
    simp [f5]
    apply hK; clear hK K
    refine L_block (L_loopV [159] (fun q vs H' => ∃ j : Nat, q = i - j ∧ j ≤ i ∧ vs = [.int .i64 j] ∧ G12 = H') _ [.int .i64 (0 : Nat)] rfl ⟨0, rfl, by omega, rfl, rfl⟩ ?_)
    rintro q _ _ ⟨j, rfl, hj, rfl, rfl⟩
    refine L_reg [8, 24, 25, 158, 159, 160] (fun K hK => ?_)
    simp
    apply hK; clear hK K
    refine L_dec (j < i) (by simp) (fun hlt => ?_) (fun hge => L_exit ?_)
    · refine L_block ?_
      have htl := hR.len
      obtain ⟨r1, z1, v1, hix1, hld1⟩ := il_ix lt (i := j) (by omega)
      have hto : to[j]'(by omega) = to[j]! := (getElem!_pos to j (by omega)).symm
      rw [hto] at hld1
      have hlt2 := hR.lt hlt
      obtain ⟨r2, z2, v2, hix2, hld2⟩ := kl_ix la hlt
      obtain ⟨r3, z3, v3, hix3, hld3⟩ := kl_ix lc hlt2
      rw [hkey j hlt] at hld3
      generalize to[j]! = xx at hld1 hlt2 hix3
      generalize keyS (locksS i l) j = kk at hld2 hld3
      have f8 : ld G12 p8 0 0 = some t := by rw [ld_row g8]; simpa using ls_known lt
      refine L_reg [8, 24, 25, 26, 158, 159] (fun K hK => ?_)
      simp
      apply hK; clear hK K
      refine L_regT mixed [8, 24, 25, 158, 159, 173] (by kernel_rfl) (fun K hK => ?_)
      simp [hix1, hld1, hix2, hld2, hix3, hld3, f8]
      apply hK; clear hK K
      refine L_false (by simp) ?_
      refine L_reg [8, 24, 25, 158, 159] (fun K hK => ?_)
      simp [wrap_i64 (a := (j : Int) + 1) (by omega)]
      apply hK; clear hK K
      exact ⟨i - (j + 1), [.int .i64 (j + 1 : Nat)], by omega, by simp, j + 1, rfl, by omega, rfl, rfl⟩
    refine L_reg [4] (fun K hK => ?_)
    simp [okFn_low]
    refine works_ac _ _ ?_
    simp
    apply hK; clear hK K
    exact L_ret ⟨.inr rfl, _, rfl, rfl⟩
  have ex : ∀ T : AH, Ext H3 (H3 ++ T) := fun T => .push _ _
  by_cases hl0 : il L2 = []
  · simp only [chV, chH, if_pos hl0] at hM0
    have own : ∀ H' : AH, OwnF 0 H' (.slice none 0 0 0 1 false) ((il L2).map (.int .i64)) := fun H' => by rw [hl0]; exact OwnF.nil _ _
    refine AWR_pair (x := 2) (y := 8) (ord := [0, 1, 3, 4, 5, 8, 2, 6, 7, 9, 10, 11]) (by kernel_rfl) ?_ ?_
    · refine AWR_pair (x := 2) (y := 9) (ord := [0, 1, 3, 4, 5, 9, 2, 6, 7, 8, 10, 11]) (by kernel_rfl) ?_ ?_
      · refine AWR_pair (x := 6) (y := 8) (ord := [0, 1, 2, 3, 4, 5, 8, 6, 7, 9, 10, 11]) (by kernel_rfl) ?_ ?_
        · refine AWR_pair (x := 6) (y := 9) (ord := [0, 1, 2, 3, 4, 5, 9, 6, 7, 8, 10, 11]) (by kernel_rfl) ?_ ?_
          · refine AWR_pair (x := 7) (y := 8) (ord := [0, 1, 2, 3, 4, 5, 6, 8, 7, 9, 10, 11]) (by kernel_rfl) ?_ ?_
            · refine AWR_pair (x := 7) (y := 9) (ord := [0, 1, 2, 3, 4, 5, 6, 9, 7, 8, 10, 11]) (by kernel_rfl) ?_ ?_
              · refine AWR_pair (x := 8) (y := 9) (ord := [0, 1, 2, 3, 4, 5, 6, 7, 9, 8, 10, 11]) (by kernel_rfl) ?_ ?_
                · refine AWR_U [5, 8, 12, 13, 14, 15] [false, false, false, true, false, false, false] rfl (by kernel_rfl) ?_
                  simp [addE, okFn_low, f50]
                  first | refine exX_mk (fun Q hQ => by first | exact rule_x lv3 i Q hQ | exact rule_x (ownF_ext lv3 (ex _)) i Q hQ) (.refl _) ?_ | refine exC_mk (fun Q hQ => by first | exact rule_x lv3 i Q hQ | exact rule_x (ownF_ext lv3 (ex _)) i Q hQ) ?_
                  simp [okFn_low, f50]
                  first | refine exX_mk (fun Q hQ => by first | exact hM0 _ (.refl _) Q hQ | exact hM0 _ (ex _) Q hQ) (.refl _) ?_ | refine exC_mk (fun Q hQ => by first | exact hM0 _ (.refl _) Q hQ | exact hM0 _ (ex _) Q hQ) ?_
                  simp [okFn_low]
                  first | refine exX_mk (fun Q hQ => rule_x (own _) i Q hQ) (.refl _) ?_ | refine exC_mk (fun Q hQ => rule_x (own _) i Q hQ) ?_
                  simp [hI, hz, cA, tw2 ag24 _ hone, tw2b ag24 _ (s := (.slice none 0 0 0 1 false)) rfl]
                  exact hfin _ H3.length (H3.length + 1) (.slice none 0 0 0 1 false) (ex _) (by simp) (by simp) (own _)
                · refine AWR_U [5, 8, 12, 13, 14, 15] [false, false, false, true, false, false, false] rfl (by kernel_rfl) ?_
                  simp [addE, permL, okFn_low, f50]
                  first | refine exX_mk (fun Q hQ => by first | exact rule_x lv3 i Q hQ | exact rule_x (ownF_ext lv3 (ex _)) i Q hQ) (.refl _) ?_ | refine exC_mk (fun Q hQ => by first | exact rule_x lv3 i Q hQ | exact rule_x (ownF_ext lv3 (ex _)) i Q hQ) ?_
                  simp [okFn_low, f50]
                  first | refine exX_mk (fun Q hQ => by first | exact hM0 _ (.refl _) Q hQ | exact hM0 _ (ex _) Q hQ) (.refl _) ?_ | refine exC_mk (fun Q hQ => by first | exact hM0 _ (.refl _) Q hQ | exact hM0 _ (ex _) Q hQ) ?_
                  simp [okFn_low]
                  first | refine exX_mk (fun Q hQ => rule_x (own _) i Q hQ) (.refl _) ?_ | refine exC_mk (fun Q hQ => rule_x (own _) i Q hQ) ?_
                  simp [hI, hz, cA, tw2b ag24 _ hone, tw2 ag24 _ (s := (.slice none 0 0 0 1 false)) rfl]
                  exact hfin _ (H3.length + 1) H3.length (.slice none 0 0 0 1 false) (ex _) (by simp) (by simp) (own _)
              · refine AWR_U [5, 8, 12, 13, 14, 15] [false, false, false, true, false, false, false, false] rfl (by kernel_rfl) ?_
                simp [addE, permL, okFn_low, f50]
                first | refine exX_mk (fun Q hQ => by first | exact rule_x lv3 i Q hQ | exact rule_x (ownF_ext lv3 (ex _)) i Q hQ) (.refl _) ?_ | refine exC_mk (fun Q hQ => by first | exact rule_x lv3 i Q hQ | exact rule_x (ownF_ext lv3 (ex _)) i Q hQ) ?_
                simp [okFn_low, f50]
                first | refine exX_mk (fun Q hQ => by first | exact hM0 _ (.refl _) Q hQ | exact hM0 _ (ex _) Q hQ) (.refl _) ?_ | refine exC_mk (fun Q hQ => by first | exact hM0 _ (.refl _) Q hQ | exact hM0 _ (ex _) Q hQ) ?_
                simp [okFn_low, hI, hz, ex]
                first | refine exX_mk (fun Q hQ => rule_x (own _) i Q hQ) (.refl _) ?_ | refine exC_mk (fun Q hQ => rule_x (own _) i Q hQ) ?_
                simp [hI, hz, cA, tw2b ag24 _ hone, tw2 ag24 _ (s := (.slice none 0 0 0 1 false)) rfl]
                exact hfin _ (H3.length + 1) H3.length (.slice none 0 0 0 1 false) (ex _) (by simp) (by simp) (own _)
            · refine AWR_pair (x := 7) (y := 9) (ord := [0, 1, 2, 3, 4, 5, 6, 9, 7, 8, 10, 11]) (by kernel_rfl) ?_ ?_
              · refine AWR_pair (x := 8) (y := 9) (ord := [0, 1, 2, 3, 4, 5, 6, 7, 9, 8, 10, 11]) (by kernel_rfl) ?_ ?_
                · refine AWR_U [5, 8, 12, 13, 14, 15] [false, false, false, true, false, false, false, false] rfl (by kernel_rfl) ?_
                  simp [addE, permL, okFn_low, f50]
                  first | refine exX_mk (fun Q hQ => by first | exact rule_x lv3 i Q hQ | exact rule_x (ownF_ext lv3 (ex _)) i Q hQ) (.refl _) ?_ | refine exC_mk (fun Q hQ => by first | exact rule_x lv3 i Q hQ | exact rule_x (ownF_ext lv3 (ex _)) i Q hQ) ?_
                  simp [okFn_low, f50]
                  first | refine exX_mk (fun Q hQ => by first | exact hM0 _ (.refl _) Q hQ | exact hM0 _ (ex _) Q hQ) (.refl _) ?_ | refine exC_mk (fun Q hQ => by first | exact hM0 _ (.refl _) Q hQ | exact hM0 _ (ex _) Q hQ) ?_
                  simp [okFn_low, hI, hz, ex]
                  first | refine exX_mk (fun Q hQ => rule_x (own _) i Q hQ) (.refl _) ?_ | refine exC_mk (fun Q hQ => rule_x (own _) i Q hQ) ?_
                  simp [hI, hz, cA, tw2 ag24 _ hone, tw2b ag24 _ (s := (.slice none 0 0 0 1 false)) rfl]
                  exact hfin _ H3.length (H3.length + 1) (.slice none 0 0 0 1 false) (ex _) (by simp) (by simp) (own _)
                · refine AWR_U [5, 8, 12, 13, 14, 15] [false, false, false, true, false, false, false, false, false] rfl (by kernel_rfl) ?_
                  simp [addE, permL, okFn_low, f50]
                  first | refine exX_mk (fun Q hQ => by first | exact rule_x lv3 i Q hQ | exact rule_x (ownF_ext lv3 (ex _)) i Q hQ) (.refl _) ?_ | refine exC_mk (fun Q hQ => by first | exact rule_x lv3 i Q hQ | exact rule_x (ownF_ext lv3 (ex _)) i Q hQ) ?_
                  simp [okFn_low, f50]
                  first | refine exX_mk (fun Q hQ => by first | exact hM0 _ (.refl _) Q hQ | exact hM0 _ (ex _) Q hQ) (.refl _) ?_ | refine exC_mk (fun Q hQ => by first | exact hM0 _ (.refl _) Q hQ | exact hM0 _ (ex _) Q hQ) ?_
                  simp [okFn_low, hI, hz, ex]
                  first | refine exX_mk (fun Q hQ => rule_x (own _) i Q hQ) (.refl _) ?_ | refine exC_mk (fun Q hQ => rule_x (own _) i Q hQ) ?_
                  simp [cA, tw2 ag24 _ hone, tw2b ag24 _ (s := (.slice none 0 0 0 1 false)) rfl]
                  exact hfin _ H3.length (H3.length + 1) (.slice none 0 0 0 1 false) (ex _) (by simp) (by simp) (own _)
              · refine AWR_U [5, 8, 12, 13, 14, 15] [false, false, false, true, false, false, false, false, false] rfl (by kernel_rfl) ?_
                simp [addE, permL, okFn_low, f50]
                first | refine exX_mk (fun Q hQ => by first | exact rule_x lv3 i Q hQ | exact rule_x (ownF_ext lv3 (ex _)) i Q hQ) (.refl _) ?_ | refine exC_mk (fun Q hQ => by first | exact rule_x lv3 i Q hQ | exact rule_x (ownF_ext lv3 (ex _)) i Q hQ) ?_
                simp [okFn_low, f50]
                first | refine exX_mk (fun Q hQ => by first | exact hM0 _ (.refl _) Q hQ | exact hM0 _ (ex _) Q hQ) (.refl _) ?_ | refine exC_mk (fun Q hQ => by first | exact hM0 _ (.refl _) Q hQ | exact hM0 _ (ex _) Q hQ) ?_
                simp [okFn_low, hI, hz, ex]
                first | refine exX_mk (fun Q hQ => rule_x (own _) i Q hQ) (.refl _) ?_ | refine exC_mk (fun Q hQ => rule_x (own _) i Q hQ) ?_
                simp [cA, tw2b ag24 _ hone, tw2 ag24 _ (s := (.slice none 0 0 0 1 false)) rfl]
                exact hfin _ (H3.length + 1) H3.length (.slice none 0 0 0 1 false) (ex _) (by simp) (by simp) (own _)
          · refine AWR_pair (x := 8) (y := 9) (ord := [0, 1, 2, 3, 4, 5, 6, 7, 9, 8, 10, 11]) (by kernel_rfl) ?_ ?_
            · refine AWR_U [5, 8, 12, 13, 14, 15] [false, false, false, true, false, false, false, false] rfl (by kernel_rfl) ?_
              simp [addE, permL, okFn_low, f50]
              first | refine exX_mk (fun Q hQ => by first | exact rule_x lv3 i Q hQ | exact rule_x (ownF_ext lv3 (ex _)) i Q hQ) (.refl _) ?_ | refine exC_mk (fun Q hQ => by first | exact rule_x lv3 i Q hQ | exact rule_x (ownF_ext lv3 (ex _)) i Q hQ) ?_
              simp [okFn_low, f50, hI, hz, ex]
              first | refine exX_mk (fun Q hQ => by first | exact hM0 _ (.refl _) Q hQ | exact hM0 _ (ex _) Q hQ) (.refl _) ?_ | refine exC_mk (fun Q hQ => by first | exact hM0 _ (.refl _) Q hQ | exact hM0 _ (ex _) Q hQ) ?_
              simp [okFn_low]
              first | refine exX_mk (fun Q hQ => rule_x (own _) i Q hQ) (.refl _) ?_ | refine exC_mk (fun Q hQ => rule_x (own _) i Q hQ) ?_
              simp [hI, hz, cA, tw2b ag24 _ hone, tw2 ag24 _ (s := (.slice none 0 0 0 1 false)) rfl]
              exact hfin _ (H3.length + 1) H3.length (.slice none 0 0 0 1 false) (ex _) (by simp) (by simp) (own _)
            · refine AWR_U [5, 8, 12, 13, 14, 15] [false, false, false, true, false, false, false, false, false] rfl (by kernel_rfl) ?_
              simp [addE, permL, okFn_low, f50]
              first | refine exX_mk (fun Q hQ => by first | exact rule_x lv3 i Q hQ | exact rule_x (ownF_ext lv3 (ex _)) i Q hQ) (.refl _) ?_ | refine exC_mk (fun Q hQ => by first | exact rule_x lv3 i Q hQ | exact rule_x (ownF_ext lv3 (ex _)) i Q hQ) ?_
              simp [okFn_low, f50, hI, hz, ex]
              first | refine exX_mk (fun Q hQ => by first | exact hM0 _ (.refl _) Q hQ | exact hM0 _ (ex _) Q hQ) (.refl _) ?_ | refine exC_mk (fun Q hQ => by first | exact hM0 _ (.refl _) Q hQ | exact hM0 _ (ex _) Q hQ) ?_
              simp [okFn_low, hI, hz, ex]
              first | refine exX_mk (fun Q hQ => rule_x (own _) i Q hQ) (.refl _) ?_ | refine exC_mk (fun Q hQ => rule_x (own _) i Q hQ) ?_
              simp [cA, tw2b ag24 _ hone, tw2 ag24 _ (s := (.slice none 0 0 0 1 false)) rfl]
              exact hfin _ (H3.length + 1) H3.length (.slice none 0 0 0 1 false) (ex _) (by simp) (by simp) (own _)
        · refine AWR_pair (x := 6) (y := 9) (ord := [0, 1, 2, 3, 4, 5, 9, 6, 7, 8, 10, 11]) (by kernel_rfl) ?_ ?_
          · refine AWR_pair (x := 7) (y := 9) (ord := [0, 1, 2, 3, 4, 5, 6, 9, 7, 8, 10, 11]) (by kernel_rfl) ?_ ?_
            · refine AWR_pair (x := 8) (y := 9) (ord := [0, 1, 2, 3, 4, 5, 6, 7, 9, 8, 10, 11]) (by kernel_rfl) ?_ ?_
              · refine AWR_U [5, 8, 12, 13, 14, 15] [false, false, false, true, false, false, false, false] rfl (by kernel_rfl) ?_
                simp [addE, permL, okFn_low, f50]
                first | refine exX_mk (fun Q hQ => by first | exact rule_x lv3 i Q hQ | exact rule_x (ownF_ext lv3 (ex _)) i Q hQ) (.refl _) ?_ | refine exC_mk (fun Q hQ => by first | exact rule_x lv3 i Q hQ | exact rule_x (ownF_ext lv3 (ex _)) i Q hQ) ?_
                simp [okFn_low, f50, hI, hz, ex]
                first | refine exX_mk (fun Q hQ => by first | exact hM0 _ (.refl _) Q hQ | exact hM0 _ (ex _) Q hQ) (.refl _) ?_ | refine exC_mk (fun Q hQ => by first | exact hM0 _ (.refl _) Q hQ | exact hM0 _ (ex _) Q hQ) ?_
                simp [okFn_low]
                first | refine exX_mk (fun Q hQ => rule_x (own _) i Q hQ) (.refl _) ?_ | refine exC_mk (fun Q hQ => rule_x (own _) i Q hQ) ?_
                simp [hI, hz, cA, tw2 ag24 _ hone, tw2b ag24 _ (s := (.slice none 0 0 0 1 false)) rfl]
                exact hfin _ H3.length (H3.length + 1) (.slice none 0 0 0 1 false) (ex _) (by simp) (by simp) (own _)
              · refine AWR_U [5, 8, 12, 13, 14, 15] [false, false, false, true, false, false, false, false, false] rfl (by kernel_rfl) ?_
                simp [addE, permL, okFn_low, f50]
                first | refine exX_mk (fun Q hQ => by first | exact rule_x lv3 i Q hQ | exact rule_x (ownF_ext lv3 (ex _)) i Q hQ) (.refl _) ?_ | refine exC_mk (fun Q hQ => by first | exact rule_x lv3 i Q hQ | exact rule_x (ownF_ext lv3 (ex _)) i Q hQ) ?_
                simp [okFn_low, f50, hI, hz, ex]
                first | refine exX_mk (fun Q hQ => by first | exact hM0 _ (.refl _) Q hQ | exact hM0 _ (ex _) Q hQ) (.refl _) ?_ | refine exC_mk (fun Q hQ => by first | exact hM0 _ (.refl _) Q hQ | exact hM0 _ (ex _) Q hQ) ?_
                simp [okFn_low, hI, hz, ex]
                first | refine exX_mk (fun Q hQ => rule_x (own _) i Q hQ) (.refl _) ?_ | refine exC_mk (fun Q hQ => rule_x (own _) i Q hQ) ?_
                simp [cA, tw2 ag24 _ hone, tw2b ag24 _ (s := (.slice none 0 0 0 1 false)) rfl]
                exact hfin _ H3.length (H3.length + 1) (.slice none 0 0 0 1 false) (ex _) (by simp) (by simp) (own _)
            · refine AWR_U [5, 8, 12, 13, 14, 15] [false, false, false, true, false, false, false, false, false] rfl (by kernel_rfl) ?_
              simp [addE, permL, okFn_low, f50]
              first | refine exX_mk (fun Q hQ => by first | exact rule_x lv3 i Q hQ | exact rule_x (ownF_ext lv3 (ex _)) i Q hQ) (.refl _) ?_ | refine exC_mk (fun Q hQ => by first | exact rule_x lv3 i Q hQ | exact rule_x (ownF_ext lv3 (ex _)) i Q hQ) ?_
              simp [okFn_low, f50, hI, hz, ex]
              first | refine exX_mk (fun Q hQ => by first | exact hM0 _ (.refl _) Q hQ | exact hM0 _ (ex _) Q hQ) (.refl _) ?_ | refine exC_mk (fun Q hQ => by first | exact hM0 _ (.refl _) Q hQ | exact hM0 _ (ex _) Q hQ) ?_
              simp [okFn_low]
              first | refine exX_mk (fun Q hQ => rule_x (own _) i Q hQ) (.refl _) ?_ | refine exC_mk (fun Q hQ => rule_x (own _) i Q hQ) ?_
              simp [cA, tw2 ag24 _ hone, tw2b ag24 _ (s := (.slice none 0 0 0 1 false)) rfl]
              exact hfin _ H3.length (H3.length + 1) (.slice none 0 0 0 1 false) (ex _) (by simp) (by simp) (own _)
          · refine AWR_U [5, 8, 12, 13, 14, 15] [false, false, false, true, false, false, false, false, false] rfl (by kernel_rfl) ?_
            simp [addE, permL, okFn_low, f50]
            first | refine exX_mk (fun Q hQ => by first | exact rule_x lv3 i Q hQ | exact rule_x (ownF_ext lv3 (ex _)) i Q hQ) (.refl _) ?_ | refine exC_mk (fun Q hQ => by first | exact rule_x lv3 i Q hQ | exact rule_x (ownF_ext lv3 (ex _)) i Q hQ) ?_
            simp [okFn_low, f50, hI, hz, ex]
            first | refine exX_mk (fun Q hQ => by first | exact hM0 _ (.refl _) Q hQ | exact hM0 _ (ex _) Q hQ) (.refl _) ?_ | refine exC_mk (fun Q hQ => by first | exact hM0 _ (.refl _) Q hQ | exact hM0 _ (ex _) Q hQ) ?_
            simp [okFn_low]
            first | refine exX_mk (fun Q hQ => rule_x (own _) i Q hQ) (.refl _) ?_ | refine exC_mk (fun Q hQ => rule_x (own _) i Q hQ) ?_
            simp [cA, tw2b ag24 _ hone, tw2 ag24 _ (s := (.slice none 0 0 0 1 false)) rfl]
            exact hfin _ (H3.length + 1) H3.length (.slice none 0 0 0 1 false) (ex _) (by simp) (by simp) (own _)
      · refine AWR_pair (x := 7) (y := 9) (ord := [0, 1, 2, 3, 4, 5, 6, 9, 7, 8, 10, 11]) (by kernel_rfl) ?_ ?_
        · refine AWR_pair (x := 8) (y := 9) (ord := [0, 1, 2, 3, 4, 5, 6, 7, 9, 8, 10, 11]) (by kernel_rfl) ?_ ?_
          · refine AWR_U [5, 8, 12, 13, 14, 15] [true, false, true, false, false, false, false, false] rfl (by kernel_rfl) ?_
            simp [addE, permL, okFn_low, f50, hI, hz, ex]
            first | refine exX_mk (fun Q hQ => by first | exact rule_x lv3 i Q hQ | exact rule_x (ownF_ext lv3 (ex _)) i Q hQ) (.refl _) ?_ | refine exC_mk (fun Q hQ => by first | exact rule_x lv3 i Q hQ | exact rule_x (ownF_ext lv3 (ex _)) i Q hQ) ?_
            simp [okFn_low]
            first | refine exX_mk (fun Q hQ => by first | exact hM0 _ (.refl _) Q hQ | exact hM0 _ (ex _) Q hQ) (.refl _) ?_ | refine exC_mk (fun Q hQ => by first | exact hM0 _ (.refl _) Q hQ | exact hM0 _ (ex _) Q hQ) ?_
            simp [okFn_low]
            first | refine exX_mk (fun Q hQ => rule_x (own _) i Q hQ) (.refl _) ?_ | refine exC_mk (fun Q hQ => rule_x (own _) i Q hQ) ?_
            simp [hI, hz, cA, tw2b ag24 _ hone, tw2 ag24 _ (s := (.slice none 0 0 0 1 false)) rfl]
            exact hfin _ (H3.length + 1) H3.length (.slice none 0 0 0 1 false) (ex _) (by simp) (by simp) (own _)
          · refine AWR_U [5, 8, 12, 13, 14, 15] [true, false, true, false, false, false, false, false, false] rfl (by kernel_rfl) ?_
            simp [addE, permL, okFn_low, f50, hI, hz, ex]
            first | refine exX_mk (fun Q hQ => by first | exact rule_x lv3 i Q hQ | exact rule_x (ownF_ext lv3 (ex _)) i Q hQ) (.refl _) ?_ | refine exC_mk (fun Q hQ => by first | exact rule_x lv3 i Q hQ | exact rule_x (ownF_ext lv3 (ex _)) i Q hQ) ?_
            simp [okFn_low]
            first | refine exX_mk (fun Q hQ => by first | exact hM0 _ (.refl _) Q hQ | exact hM0 _ (ex _) Q hQ) (.refl _) ?_ | refine exC_mk (fun Q hQ => by first | exact hM0 _ (.refl _) Q hQ | exact hM0 _ (ex _) Q hQ) ?_
            simp [okFn_low, hI, hz, ex]
            first | refine exX_mk (fun Q hQ => rule_x (own _) i Q hQ) (.refl _) ?_ | refine exC_mk (fun Q hQ => rule_x (own _) i Q hQ) ?_
            simp [cA, tw2b ag24 _ hone, tw2 ag24 _ (s := (.slice none 0 0 0 1 false)) rfl]
            exact hfin _ (H3.length + 1) H3.length (.slice none 0 0 0 1 false) (ex _) (by simp) (by simp) (own _)
        · refine AWR_U [5, 8, 12, 13, 14, 15] [true, false, true, false, false, false, false, false, false] rfl (by kernel_rfl) ?_
          simp [addE, permL, okFn_low, f50, hI, hz, ex]
          first | refine exX_mk (fun Q hQ => by first | exact rule_x lv3 i Q hQ | exact rule_x (ownF_ext lv3 (ex _)) i Q hQ) (.refl _) ?_ | refine exC_mk (fun Q hQ => by first | exact rule_x lv3 i Q hQ | exact rule_x (ownF_ext lv3 (ex _)) i Q hQ) ?_
          simp [okFn_low, hI, hz, ex]
          first | refine exX_mk (fun Q hQ => by first | exact hM0 _ (.refl _) Q hQ | exact hM0 _ (ex _) Q hQ) (.refl _) ?_ | refine exC_mk (fun Q hQ => by first | exact hM0 _ (.refl _) Q hQ | exact hM0 _ (ex _) Q hQ) ?_
          simp [okFn_low]
          first | refine exX_mk (fun Q hQ => rule_x (own _) i Q hQ) (.refl _) ?_ | refine exC_mk (fun Q hQ => rule_x (own _) i Q hQ) ?_
          simp [cA, tw2b ag24 _ hone, tw2 ag24 _ (s := (.slice none 0 0 0 1 false)) rfl]
          exact hfin _ (H3.length + 1) H3.length (.slice none 0 0 0 1 false) (ex _) (by simp) (by simp) (own _)
    · refine AWR_pair (x := 5) (y := 9) (ord := [0, 1, 2, 3, 4, 9, 5, 6, 7, 8, 10, 11]) (by kernel_rfl) ?_ ?_
      · refine AWR_pair (x := 6) (y := 9) (ord := [0, 1, 2, 3, 4, 5, 9, 6, 7, 8, 10, 11]) (by kernel_rfl) ?_ ?_
        · refine AWR_pair (x := 7) (y := 9) (ord := [0, 1, 2, 3, 4, 5, 6, 9, 7, 8, 10, 11]) (by kernel_rfl) ?_ ?_
          · refine AWR_pair (x := 8) (y := 9) (ord := [0, 1, 2, 3, 4, 5, 6, 7, 9, 8, 10, 11]) (by kernel_rfl) ?_ ?_
            · refine AWR_U [5, 8, 12, 13, 14, 15] [true, false, true, false, false, false, false, false] rfl (by kernel_rfl) ?_
              simp [addE, permL, okFn_low, f50, hI, hz, ex]
              first | refine exX_mk (fun Q hQ => by first | exact rule_x lv3 i Q hQ | exact rule_x (ownF_ext lv3 (ex _)) i Q hQ) (.refl _) ?_ | refine exC_mk (fun Q hQ => by first | exact rule_x lv3 i Q hQ | exact rule_x (ownF_ext lv3 (ex _)) i Q hQ) ?_
              simp [okFn_low]
              first | refine exX_mk (fun Q hQ => by first | exact hM0 _ (.refl _) Q hQ | exact hM0 _ (ex _) Q hQ) (.refl _) ?_ | refine exC_mk (fun Q hQ => by first | exact hM0 _ (.refl _) Q hQ | exact hM0 _ (ex _) Q hQ) ?_
              simp [okFn_low]
              first | refine exX_mk (fun Q hQ => rule_x (own _) i Q hQ) (.refl _) ?_ | refine exC_mk (fun Q hQ => rule_x (own _) i Q hQ) ?_
              simp [hI, hz, cA, tw2 ag24 _ hone, tw2b ag24 _ (s := (.slice none 0 0 0 1 false)) rfl]
              exact hfin _ H3.length (H3.length + 1) (.slice none 0 0 0 1 false) (ex _) (by simp) (by simp) (own _)
            · refine AWR_U [5, 8, 12, 13, 14, 15] [true, false, true, false, false, false, false, false, false] rfl (by kernel_rfl) ?_
              simp [addE, permL, okFn_low, f50, hI, hz, ex]
              first | refine exX_mk (fun Q hQ => by first | exact rule_x lv3 i Q hQ | exact rule_x (ownF_ext lv3 (ex _)) i Q hQ) (.refl _) ?_ | refine exC_mk (fun Q hQ => by first | exact rule_x lv3 i Q hQ | exact rule_x (ownF_ext lv3 (ex _)) i Q hQ) ?_
              simp [okFn_low]
              first | refine exX_mk (fun Q hQ => by first | exact hM0 _ (.refl _) Q hQ | exact hM0 _ (ex _) Q hQ) (.refl _) ?_ | refine exC_mk (fun Q hQ => by first | exact hM0 _ (.refl _) Q hQ | exact hM0 _ (ex _) Q hQ) ?_
              simp [okFn_low, hI, hz, ex]
              first | refine exX_mk (fun Q hQ => rule_x (own _) i Q hQ) (.refl _) ?_ | refine exC_mk (fun Q hQ => rule_x (own _) i Q hQ) ?_
              simp [cA, tw2 ag24 _ hone, tw2b ag24 _ (s := (.slice none 0 0 0 1 false)) rfl]
              exact hfin _ H3.length (H3.length + 1) (.slice none 0 0 0 1 false) (ex _) (by simp) (by simp) (own _)
          · refine AWR_U [5, 8, 12, 13, 14, 15] [true, false, true, false, false, false, false, false, false] rfl (by kernel_rfl) ?_
            simp [addE, permL, okFn_low, f50, hI, hz, ex]
            first | refine exX_mk (fun Q hQ => by first | exact rule_x lv3 i Q hQ | exact rule_x (ownF_ext lv3 (ex _)) i Q hQ) (.refl _) ?_ | refine exC_mk (fun Q hQ => by first | exact rule_x lv3 i Q hQ | exact rule_x (ownF_ext lv3 (ex _)) i Q hQ) ?_
            simp [okFn_low, hI, hz, ex]
            first | refine exX_mk (fun Q hQ => by first | exact hM0 _ (.refl _) Q hQ | exact hM0 _ (ex _) Q hQ) (.refl _) ?_ | refine exC_mk (fun Q hQ => by first | exact hM0 _ (.refl _) Q hQ | exact hM0 _ (ex _) Q hQ) ?_
            simp [okFn_low]
            first | refine exX_mk (fun Q hQ => rule_x (own _) i Q hQ) (.refl _) ?_ | refine exC_mk (fun Q hQ => rule_x (own _) i Q hQ) ?_
            simp [cA, tw2 ag24 _ hone, tw2b ag24 _ (s := (.slice none 0 0 0 1 false)) rfl]
            exact hfin _ H3.length (H3.length + 1) (.slice none 0 0 0 1 false) (ex _) (by simp) (by simp) (own _)
        · refine AWR_U [5, 8, 12, 13, 14, 15] [true, false, true, false, false, false, false, false, false] rfl (by kernel_rfl) ?_
          simp [addE, permL, okFn_low, f50, hI, hz, ex]
          first | refine exX_mk (fun Q hQ => by first | exact rule_x lv3 i Q hQ | exact rule_x (ownF_ext lv3 (ex _)) i Q hQ) (.refl _) ?_ | refine exC_mk (fun Q hQ => by first | exact rule_x lv3 i Q hQ | exact rule_x (ownF_ext lv3 (ex _)) i Q hQ) ?_
          simp [okFn_low]
          first | refine exX_mk (fun Q hQ => by first | exact hM0 _ (.refl _) Q hQ | exact hM0 _ (ex _) Q hQ) (.refl _) ?_ | refine exC_mk (fun Q hQ => by first | exact hM0 _ (.refl _) Q hQ | exact hM0 _ (ex _) Q hQ) ?_
          simp [okFn_low]
          first | refine exX_mk (fun Q hQ => rule_x (own _) i Q hQ) (.refl _) ?_ | refine exC_mk (fun Q hQ => rule_x (own _) i Q hQ) ?_
          simp [cA, tw2 ag24 _ hone, tw2b ag24 _ (s := (.slice none 0 0 0 1 false)) rfl]
          exact hfin _ H3.length (H3.length + 1) (.slice none 0 0 0 1 false) (ex _) (by simp) (by simp) (own _)
      · refine AWR_U [5, 8, 12, 13, 14, 15] [true, false, true, false, false, false, false, false, false] rfl (by kernel_rfl) ?_
        simp [addE, permL, okFn_low, f50, hI, hz, ex]
        first | refine exX_mk (fun Q hQ => by first | exact rule_x lv3 i Q hQ | exact rule_x (ownF_ext lv3 (ex _)) i Q hQ) (.refl _) ?_ | refine exC_mk (fun Q hQ => by first | exact rule_x lv3 i Q hQ | exact rule_x (ownF_ext lv3 (ex _)) i Q hQ) ?_
        simp [okFn_low]
        first | refine exX_mk (fun Q hQ => by first | exact hM0 _ (.refl _) Q hQ | exact hM0 _ (ex _) Q hQ) (.refl _) ?_ | refine exC_mk (fun Q hQ => by first | exact hM0 _ (.refl _) Q hQ | exact hM0 _ (ex _) Q hQ) ?_
        simp [okFn_low]
        first | refine exX_mk (fun Q hQ => rule_x (own _) i Q hQ) (.refl _) ?_ | refine exC_mk (fun Q hQ => rule_x (own _) i Q hQ) ?_
        simp [cA, tw2b ag24 _ hone, tw2 ag24 _ (s := (.slice none 0 0 0 1 false)) rfl]
        exact hfin _ (H3.length + 1) H3.length (.slice none 0 0 0 1 false) (ex _) (by simp) (by simp) (own _)
  · simp only [chV, chH, if_neg hl0] at hM0
    refine AWR_pair (x := 2) (y := 8) (ord := [0, 1, 3, 4, 5, 8, 2, 6, 7, 9, 10, 11]) (by kernel_rfl) ?_ ?_
    · refine AWR_pair (x := 2) (y := 9) (ord := [0, 1, 3, 4, 5, 9, 2, 6, 7, 8, 10, 11]) (by kernel_rfl) ?_ ?_
      · refine AWR_pair (x := 6) (y := 8) (ord := [0, 1, 2, 3, 4, 5, 8, 6, 7, 9, 10, 11]) (by kernel_rfl) ?_ ?_
        · refine AWR_pair (x := 6) (y := 9) (ord := [0, 1, 2, 3, 4, 5, 9, 6, 7, 8, 10, 11]) (by kernel_rfl) ?_ ?_
          · refine AWR_pair (x := 7) (y := 8) (ord := [0, 1, 2, 3, 4, 5, 6, 8, 7, 9, 10, 11]) (by kernel_rfl) ?_ ?_
            · refine AWR_pair (x := 7) (y := 9) (ord := [0, 1, 2, 3, 4, 5, 6, 9, 7, 8, 10, 11]) (by kernel_rfl) ?_ ?_
              · refine AWR_pair (x := 8) (y := 9) (ord := [0, 1, 2, 3, 4, 5, 6, 7, 9, 8, 10, 11]) (by kernel_rfl) ?_ ?_
                · refine AWR_U [5, 8, 12, 13, 14, 15] [false, false, false, true, false, false, false] rfl (by kernel_rfl) ?_
                  simp [addE, okFn_low, f50]
                  first | refine exX_mk (fun Q hQ => by first | exact rule_x lv3 i Q hQ | exact rule_x (ownF_ext lv3 (ex _)) i Q hQ) (.refl _) ?_ | refine exC_mk (fun Q hQ => by first | exact rule_x lv3 i Q hQ | exact rule_x (ownF_ext lv3 (ex _)) i Q hQ) ?_
                  simp [okFn_low, f50]
                  first | refine exX_mk (fun Q hQ => by first | exact hM0 _ (.refl _) Q hQ | exact hM0 _ (ex _) Q hQ) (.push _ _) ?_ | refine exC_mk (fun Q hQ => by first | exact hM0 _ (.refl _) Q hQ | exact hM0 _ (ex _) Q hQ) ?_
                  simp [okFn_low]
                  first | refine exX_mk (fun Q hQ => rule_x (N := 0) (l := il L2) (.inr ⟨H3.length, 0, (il L2).length, Nat.zero_le _, by simp, by simp⟩) i Q hQ) (.refl _) ?_ | refine exC_mk (fun Q hQ => rule_x (N := 0) (l := il L2) (.inr ⟨H3.length, 0, (il L2).length, Nat.zero_le _, by simp, by simp⟩) i Q hQ) ?_
                  simp [hI, hz, cA, tw2b ag24 _ hone, tw2c ag24 _ (s := (.slice (some H3.length) 0 (il L2).length 0 1 false)) rfl]
                  exact hfin _ (H3.length + 1) (H3.length + 2) (.slice (some H3.length) 0 (il L2).length 0 1 false) (ex _) (by simp) (by simp) (.inr ⟨H3.length, 0, (il L2).length, Nat.zero_le _, by simp, by simp⟩)
                · refine AWR_U [5, 8, 12, 13, 14, 15] [false, false, false, true, false, false, false] rfl (by kernel_rfl) ?_
                  simp [addE, permL, okFn_low, f50]
                  first | refine exX_mk (fun Q hQ => by first | exact rule_x lv3 i Q hQ | exact rule_x (ownF_ext lv3 (ex _)) i Q hQ) (.refl _) ?_ | refine exC_mk (fun Q hQ => by first | exact rule_x lv3 i Q hQ | exact rule_x (ownF_ext lv3 (ex _)) i Q hQ) ?_
                  simp [okFn_low, f50]
                  first | refine exX_mk (fun Q hQ => by first | exact hM0 _ (.refl _) Q hQ | exact hM0 _ (ex _) Q hQ) (.push _ _) ?_ | refine exC_mk (fun Q hQ => by first | exact hM0 _ (.refl _) Q hQ | exact hM0 _ (ex _) Q hQ) ?_
                  simp [okFn_low]
                  first | refine exX_mk (fun Q hQ => rule_x (N := 0) (l := il L2) (.inr ⟨H3.length, 0, (il L2).length, Nat.zero_le _, by simp, by simp⟩) i Q hQ) (.refl _) ?_ | refine exC_mk (fun Q hQ => rule_x (N := 0) (l := il L2) (.inr ⟨H3.length, 0, (il L2).length, Nat.zero_le _, by simp, by simp⟩) i Q hQ) ?_
                  simp [hI, hz, cA, tw2c ag24 _ hone, tw2b ag24 _ (s := (.slice (some H3.length) 0 (il L2).length 0 1 false)) rfl]
                  exact hfin _ (H3.length + 2) (H3.length + 1) (.slice (some H3.length) 0 (il L2).length 0 1 false) (ex _) (by simp) (by simp) (.inr ⟨H3.length, 0, (il L2).length, Nat.zero_le _, by simp, by simp⟩)
              · refine AWR_U [5, 8, 12, 13, 14, 15] [false, false, false, true, false, false, false, false] rfl (by kernel_rfl) ?_
                simp [addE, permL, okFn_low, f50]
                first | refine exX_mk (fun Q hQ => by first | exact rule_x lv3 i Q hQ | exact rule_x (ownF_ext lv3 (ex _)) i Q hQ) (.refl _) ?_ | refine exC_mk (fun Q hQ => by first | exact rule_x lv3 i Q hQ | exact rule_x (ownF_ext lv3 (ex _)) i Q hQ) ?_
                simp [okFn_low, f50]
                first | refine exX_mk (fun Q hQ => by first | exact hM0 _ (.refl _) Q hQ | exact hM0 _ (ex _) Q hQ) (.push _ _) ?_ | refine exC_mk (fun Q hQ => by first | exact hM0 _ (.refl _) Q hQ | exact hM0 _ (ex _) Q hQ) ?_
                simp [okFn_low, hI, hz, ex]
                first | refine exX_mk (fun Q hQ => rule_x (N := 0) (l := il L2) (.inr ⟨H3.length, 0, (il L2).length, Nat.zero_le _, by simp, by simp⟩) i Q hQ) (.refl _) ?_ | refine exC_mk (fun Q hQ => rule_x (N := 0) (l := il L2) (.inr ⟨H3.length, 0, (il L2).length, Nat.zero_le _, by simp, by simp⟩) i Q hQ) ?_
                simp [hI, hz, cA, tw2c ag24 _ hone, tw2b ag24 _ (s := (.slice (some H3.length) 0 (il L2).length 0 1 false)) rfl]
                exact hfin _ (H3.length + 2) (H3.length + 1) (.slice (some H3.length) 0 (il L2).length 0 1 false) (ex _) (by simp) (by simp) (.inr ⟨H3.length, 0, (il L2).length, Nat.zero_le _, by simp, by simp⟩)
            · refine AWR_pair (x := 7) (y := 9) (ord := [0, 1, 2, 3, 4, 5, 6, 9, 7, 8, 10, 11]) (by kernel_rfl) ?_ ?_
              · refine AWR_pair (x := 8) (y := 9) (ord := [0, 1, 2, 3, 4, 5, 6, 7, 9, 8, 10, 11]) (by kernel_rfl) ?_ ?_
                · refine AWR_U [5, 8, 12, 13, 14, 15] [false, false, false, true, false, false, false, false] rfl (by kernel_rfl) ?_
                  simp [addE, permL, okFn_low, f50]
                  first | refine exX_mk (fun Q hQ => by first | exact rule_x lv3 i Q hQ | exact rule_x (ownF_ext lv3 (ex _)) i Q hQ) (.refl _) ?_ | refine exC_mk (fun Q hQ => by first | exact rule_x lv3 i Q hQ | exact rule_x (ownF_ext lv3 (ex _)) i Q hQ) ?_
                  simp [okFn_low, f50]
                  first | refine exX_mk (fun Q hQ => by first | exact hM0 _ (.refl _) Q hQ | exact hM0 _ (ex _) Q hQ) (.push _ _) ?_ | refine exC_mk (fun Q hQ => by first | exact hM0 _ (.refl _) Q hQ | exact hM0 _ (ex _) Q hQ) ?_
                  simp [okFn_low, hI, hz, ex]
                  first | refine exX_mk (fun Q hQ => rule_x (N := 0) (l := il L2) (.inr ⟨H3.length, 0, (il L2).length, Nat.zero_le _, by simp, by simp⟩) i Q hQ) (.refl _) ?_ | refine exC_mk (fun Q hQ => rule_x (N := 0) (l := il L2) (.inr ⟨H3.length, 0, (il L2).length, Nat.zero_le _, by simp, by simp⟩) i Q hQ) ?_
                  simp [hI, hz, cA, tw2b ag24 _ hone, tw2c ag24 _ (s := (.slice (some H3.length) 0 (il L2).length 0 1 false)) rfl]
                  exact hfin _ (H3.length + 1) (H3.length + 2) (.slice (some H3.length) 0 (il L2).length 0 1 false) (ex _) (by simp) (by simp) (.inr ⟨H3.length, 0, (il L2).length, Nat.zero_le _, by simp, by simp⟩)
                · refine AWR_U [5, 8, 12, 13, 14, 15] [false, false, false, true, false, false, false, false, false] rfl (by kernel_rfl) ?_
                  simp [addE, permL, okFn_low, f50]
                  first | refine exX_mk (fun Q hQ => by first | exact rule_x lv3 i Q hQ | exact rule_x (ownF_ext lv3 (ex _)) i Q hQ) (.refl _) ?_ | refine exC_mk (fun Q hQ => by first | exact rule_x lv3 i Q hQ | exact rule_x (ownF_ext lv3 (ex _)) i Q hQ) ?_
                  simp [okFn_low, f50]
                  first | refine exX_mk (fun Q hQ => by first | exact hM0 _ (.refl _) Q hQ | exact hM0 _ (ex _) Q hQ) (.push _ _) ?_ | refine exC_mk (fun Q hQ => by first | exact hM0 _ (.refl _) Q hQ | exact hM0 _ (ex _) Q hQ) ?_
                  simp [okFn_low, hI, hz, ex]
                  first | refine exX_mk (fun Q hQ => rule_x (N := 0) (l := il L2) (.inr ⟨H3.length, 0, (il L2).length, Nat.zero_le _, by simp, by simp⟩) i Q hQ) (.refl _) ?_ | refine exC_mk (fun Q hQ => rule_x (N := 0) (l := il L2) (.inr ⟨H3.length, 0, (il L2).length, Nat.zero_le _, by simp, by simp⟩) i Q hQ) ?_
                  simp [cA, tw2b ag24 _ hone, tw2c ag24 _ (s := (.slice (some H3.length) 0 (il L2).length 0 1 false)) rfl]
                  exact hfin _ (H3.length + 1) (H3.length + 2) (.slice (some H3.length) 0 (il L2).length 0 1 false) (ex _) (by simp) (by simp) (.inr ⟨H3.length, 0, (il L2).length, Nat.zero_le _, by simp, by simp⟩)
              · refine AWR_U [5, 8, 12, 13, 14, 15] [false, false, false, true, false, false, false, false, false] rfl (by kernel_rfl) ?_
                simp [addE, permL, okFn_low, f50]
                first | refine exX_mk (fun Q hQ => by first | exact rule_x lv3 i Q hQ | exact rule_x (ownF_ext lv3 (ex _)) i Q hQ) (.refl _) ?_ | refine exC_mk (fun Q hQ => by first | exact rule_x lv3 i Q hQ | exact rule_x (ownF_ext lv3 (ex _)) i Q hQ) ?_
                simp [okFn_low, f50]
                first | refine exX_mk (fun Q hQ => by first | exact hM0 _ (.refl _) Q hQ | exact hM0 _ (ex _) Q hQ) (.push _ _) ?_ | refine exC_mk (fun Q hQ => by first | exact hM0 _ (.refl _) Q hQ | exact hM0 _ (ex _) Q hQ) ?_
                simp [okFn_low, hI, hz, ex]
                first | refine exX_mk (fun Q hQ => rule_x (N := 0) (l := il L2) (.inr ⟨H3.length, 0, (il L2).length, Nat.zero_le _, by simp, by simp⟩) i Q hQ) (.refl _) ?_ | refine exC_mk (fun Q hQ => rule_x (N := 0) (l := il L2) (.inr ⟨H3.length, 0, (il L2).length, Nat.zero_le _, by simp, by simp⟩) i Q hQ) ?_
                simp [cA, tw2c ag24 _ hone, tw2b ag24 _ (s := (.slice (some H3.length) 0 (il L2).length 0 1 false)) rfl]
                exact hfin _ (H3.length + 2) (H3.length + 1) (.slice (some H3.length) 0 (il L2).length 0 1 false) (ex _) (by simp) (by simp) (.inr ⟨H3.length, 0, (il L2).length, Nat.zero_le _, by simp, by simp⟩)
          · refine AWR_pair (x := 8) (y := 9) (ord := [0, 1, 2, 3, 4, 5, 6, 7, 9, 8, 10, 11]) (by kernel_rfl) ?_ ?_
            · refine AWR_U [5, 8, 12, 13, 14, 15] [false, false, false, true, false, false, false, false] rfl (by kernel_rfl) ?_
              simp [addE, permL, okFn_low, f50]
              first | refine exX_mk (fun Q hQ => by first | exact rule_x lv3 i Q hQ | exact rule_x (ownF_ext lv3 (ex _)) i Q hQ) (.refl _) ?_ | refine exC_mk (fun Q hQ => by first | exact rule_x lv3 i Q hQ | exact rule_x (ownF_ext lv3 (ex _)) i Q hQ) ?_
              simp [okFn_low, f50, hI, hz, ex]
              first | refine exX_mk (fun Q hQ => by first | exact hM0 _ (.refl _) Q hQ | exact hM0 _ (ex _) Q hQ) (.push _ _) ?_ | refine exC_mk (fun Q hQ => by first | exact hM0 _ (.refl _) Q hQ | exact hM0 _ (ex _) Q hQ) ?_
              simp [okFn_low]
              first | refine exX_mk (fun Q hQ => rule_x (N := 0) (l := il L2) (.inr ⟨(H3.length + 1), 0, (il L2).length, Nat.zero_le _, by simp, by simp⟩) i Q hQ) (.refl _) ?_ | refine exC_mk (fun Q hQ => rule_x (N := 0) (l := il L2) (.inr ⟨(H3.length + 1), 0, (il L2).length, Nat.zero_le _, by simp, by simp⟩) i Q hQ) ?_
              simp [hI, hz, cA, tw2c ag24 _ hone, tw2 ag24 _ (s := (.slice (some (H3.length + 1)) 0 (il L2).length 0 1 false)) rfl]
              exact hfin _ (H3.length + 2) H3.length (.slice (some (H3.length + 1)) 0 (il L2).length 0 1 false) (ex _) (by simp) (by simp) (.inr ⟨(H3.length + 1), 0, (il L2).length, Nat.zero_le _, by simp, by simp⟩)
            · refine AWR_U [5, 8, 12, 13, 14, 15] [false, false, false, true, false, false, false, false, false] rfl (by kernel_rfl) ?_
              simp [addE, permL, okFn_low, f50]
              first | refine exX_mk (fun Q hQ => by first | exact rule_x lv3 i Q hQ | exact rule_x (ownF_ext lv3 (ex _)) i Q hQ) (.refl _) ?_ | refine exC_mk (fun Q hQ => by first | exact rule_x lv3 i Q hQ | exact rule_x (ownF_ext lv3 (ex _)) i Q hQ) ?_
              simp [okFn_low, f50, hI, hz, ex]
              first | refine exX_mk (fun Q hQ => by first | exact hM0 _ (.refl _) Q hQ | exact hM0 _ (ex _) Q hQ) (.push _ _) ?_ | refine exC_mk (fun Q hQ => by first | exact hM0 _ (.refl _) Q hQ | exact hM0 _ (ex _) Q hQ) ?_
              simp [okFn_low, hI, hz, ex]
              first | refine exX_mk (fun Q hQ => rule_x (N := 0) (l := il L2) (.inr ⟨(H3.length + 1), 0, (il L2).length, Nat.zero_le _, by simp, by simp⟩) i Q hQ) (.refl _) ?_ | refine exC_mk (fun Q hQ => rule_x (N := 0) (l := il L2) (.inr ⟨(H3.length + 1), 0, (il L2).length, Nat.zero_le _, by simp, by simp⟩) i Q hQ) ?_
              simp [cA, tw2c ag24 _ hone, tw2 ag24 _ (s := (.slice (some (H3.length + 1)) 0 (il L2).length 0 1 false)) rfl]
              exact hfin _ (H3.length + 2) H3.length (.slice (some (H3.length + 1)) 0 (il L2).length 0 1 false) (ex _) (by simp) (by simp) (.inr ⟨(H3.length + 1), 0, (il L2).length, Nat.zero_le _, by simp, by simp⟩)
        · refine AWR_pair (x := 6) (y := 9) (ord := [0, 1, 2, 3, 4, 5, 9, 6, 7, 8, 10, 11]) (by kernel_rfl) ?_ ?_
          · refine AWR_pair (x := 7) (y := 9) (ord := [0, 1, 2, 3, 4, 5, 6, 9, 7, 8, 10, 11]) (by kernel_rfl) ?_ ?_
            · refine AWR_pair (x := 8) (y := 9) (ord := [0, 1, 2, 3, 4, 5, 6, 7, 9, 8, 10, 11]) (by kernel_rfl) ?_ ?_
              · refine AWR_U [5, 8, 12, 13, 14, 15] [false, false, false, true, false, false, false, false] rfl (by kernel_rfl) ?_
                simp [addE, permL, okFn_low, f50]
                first | refine exX_mk (fun Q hQ => by first | exact rule_x lv3 i Q hQ | exact rule_x (ownF_ext lv3 (ex _)) i Q hQ) (.refl _) ?_ | refine exC_mk (fun Q hQ => by first | exact rule_x lv3 i Q hQ | exact rule_x (ownF_ext lv3 (ex _)) i Q hQ) ?_
                simp [okFn_low, f50, hI, hz, ex]
                first | refine exX_mk (fun Q hQ => by first | exact hM0 _ (.refl _) Q hQ | exact hM0 _ (ex _) Q hQ) (.push _ _) ?_ | refine exC_mk (fun Q hQ => by first | exact hM0 _ (.refl _) Q hQ | exact hM0 _ (ex _) Q hQ) ?_
                simp [okFn_low]
                first | refine exX_mk (fun Q hQ => rule_x (N := 0) (l := il L2) (.inr ⟨(H3.length + 1), 0, (il L2).length, Nat.zero_le _, by simp, by simp⟩) i Q hQ) (.refl _) ?_ | refine exC_mk (fun Q hQ => rule_x (N := 0) (l := il L2) (.inr ⟨(H3.length + 1), 0, (il L2).length, Nat.zero_le _, by simp, by simp⟩) i Q hQ) ?_
                simp [hI, hz, cA, tw2 ag24 _ hone, tw2c ag24 _ (s := (.slice (some (H3.length + 1)) 0 (il L2).length 0 1 false)) rfl]
                exact hfin _ H3.length (H3.length + 2) (.slice (some (H3.length + 1)) 0 (il L2).length 0 1 false) (ex _) (by simp) (by simp) (.inr ⟨(H3.length + 1), 0, (il L2).length, Nat.zero_le _, by simp, by simp⟩)
              · refine AWR_U [5, 8, 12, 13, 14, 15] [false, false, false, true, false, false, false, false, false] rfl (by kernel_rfl) ?_
                simp [addE, permL, okFn_low, f50]
                first | refine exX_mk (fun Q hQ => by first | exact rule_x lv3 i Q hQ | exact rule_x (ownF_ext lv3 (ex _)) i Q hQ) (.refl _) ?_ | refine exC_mk (fun Q hQ => by first | exact rule_x lv3 i Q hQ | exact rule_x (ownF_ext lv3 (ex _)) i Q hQ) ?_
                simp [okFn_low, f50, hI, hz, ex]
                first | refine exX_mk (fun Q hQ => by first | exact hM0 _ (.refl _) Q hQ | exact hM0 _ (ex _) Q hQ) (.push _ _) ?_ | refine exC_mk (fun Q hQ => by first | exact hM0 _ (.refl _) Q hQ | exact hM0 _ (ex _) Q hQ) ?_
                simp [okFn_low, hI, hz, ex]
                first | refine exX_mk (fun Q hQ => rule_x (N := 0) (l := il L2) (.inr ⟨(H3.length + 1), 0, (il L2).length, Nat.zero_le _, by simp, by simp⟩) i Q hQ) (.refl _) ?_ | refine exC_mk (fun Q hQ => rule_x (N := 0) (l := il L2) (.inr ⟨(H3.length + 1), 0, (il L2).length, Nat.zero_le _, by simp, by simp⟩) i Q hQ) ?_
                simp [cA, tw2 ag24 _ hone, tw2c ag24 _ (s := (.slice (some (H3.length + 1)) 0 (il L2).length 0 1 false)) rfl]
                exact hfin _ H3.length (H3.length + 2) (.slice (some (H3.length + 1)) 0 (il L2).length 0 1 false) (ex _) (by simp) (by simp) (.inr ⟨(H3.length + 1), 0, (il L2).length, Nat.zero_le _, by simp, by simp⟩)
            · refine AWR_U [5, 8, 12, 13, 14, 15] [false, false, false, true, false, false, false, false, false] rfl (by kernel_rfl) ?_
              simp [addE, permL, okFn_low, f50]
              first | refine exX_mk (fun Q hQ => by first | exact rule_x lv3 i Q hQ | exact rule_x (ownF_ext lv3 (ex _)) i Q hQ) (.refl _) ?_ | refine exC_mk (fun Q hQ => by first | exact rule_x lv3 i Q hQ | exact rule_x (ownF_ext lv3 (ex _)) i Q hQ) ?_
              simp [okFn_low, f50, hI, hz, ex]
              first | refine exX_mk (fun Q hQ => by first | exact hM0 _ (.refl _) Q hQ | exact hM0 _ (ex _) Q hQ) (.push _ _) ?_ | refine exC_mk (fun Q hQ => by first | exact hM0 _ (.refl _) Q hQ | exact hM0 _ (ex _) Q hQ) ?_
              simp [okFn_low]
              first | refine exX_mk (fun Q hQ => rule_x (N := 0) (l := il L2) (.inr ⟨(H3.length + 2), 0, (il L2).length, Nat.zero_le _, by simp, by simp⟩) i Q hQ) (.refl _) ?_ | refine exC_mk (fun Q hQ => rule_x (N := 0) (l := il L2) (.inr ⟨(H3.length + 2), 0, (il L2).length, Nat.zero_le _, by simp, by simp⟩) i Q hQ) ?_
              simp [cA, tw2 ag24 _ hone, tw2b ag24 _ (s := (.slice (some (H3.length + 2)) 0 (il L2).length 0 1 false)) rfl]
              exact hfin _ H3.length (H3.length + 1) (.slice (some (H3.length + 2)) 0 (il L2).length 0 1 false) (ex _) (by simp) (by simp) (.inr ⟨(H3.length + 2), 0, (il L2).length, Nat.zero_le _, by simp, by simp⟩)
          · refine AWR_U [5, 8, 12, 13, 14, 15] [false, false, false, true, false, false, false, false, false] rfl (by kernel_rfl) ?_
            simp [addE, permL, okFn_low, f50]
            first | refine exX_mk (fun Q hQ => by first | exact rule_x lv3 i Q hQ | exact rule_x (ownF_ext lv3 (ex _)) i Q hQ) (.refl _) ?_ | refine exC_mk (fun Q hQ => by first | exact rule_x lv3 i Q hQ | exact rule_x (ownF_ext lv3 (ex _)) i Q hQ) ?_
            simp [okFn_low, f50, hI, hz, ex]
            first | refine exX_mk (fun Q hQ => by first | exact hM0 _ (.refl _) Q hQ | exact hM0 _ (ex _) Q hQ) (.push _ _) ?_ | refine exC_mk (fun Q hQ => by first | exact hM0 _ (.refl _) Q hQ | exact hM0 _ (ex _) Q hQ) ?_
            simp [okFn_low]
            first | refine exX_mk (fun Q hQ => rule_x (N := 0) (l := il L2) (.inr ⟨(H3.length + 2), 0, (il L2).length, Nat.zero_le _, by simp, by simp⟩) i Q hQ) (.refl _) ?_ | refine exC_mk (fun Q hQ => rule_x (N := 0) (l := il L2) (.inr ⟨(H3.length + 2), 0, (il L2).length, Nat.zero_le _, by simp, by simp⟩) i Q hQ) ?_
            simp [cA, tw2b ag24 _ hone, tw2 ag24 _ (s := (.slice (some (H3.length + 2)) 0 (il L2).length 0 1 false)) rfl]
            exact hfin _ (H3.length + 1) H3.length (.slice (some (H3.length + 2)) 0 (il L2).length 0 1 false) (ex _) (by simp) (by simp) (.inr ⟨(H3.length + 2), 0, (il L2).length, Nat.zero_le _, by simp, by simp⟩)
      · refine AWR_pair (x := 7) (y := 9) (ord := [0, 1, 2, 3, 4, 5, 6, 9, 7, 8, 10, 11]) (by kernel_rfl) ?_ ?_
        · refine AWR_pair (x := 8) (y := 9) (ord := [0, 1, 2, 3, 4, 5, 6, 7, 9, 8, 10, 11]) (by kernel_rfl) ?_ ?_
          · refine AWR_U [5, 8, 12, 13, 14, 15] [true, false, true, false, false, false, false, false] rfl (by kernel_rfl) ?_
            simp [addE, permL, okFn_low, f50, hI, hz, ex]
            first | refine exX_mk (fun Q hQ => by first | exact rule_x lv3 i Q hQ | exact rule_x (ownF_ext lv3 (ex _)) i Q hQ) (.refl _) ?_ | refine exC_mk (fun Q hQ => by first | exact rule_x lv3 i Q hQ | exact rule_x (ownF_ext lv3 (ex _)) i Q hQ) ?_
            simp [okFn_low]
            first | refine exX_mk (fun Q hQ => by first | exact hM0 _ (.refl _) Q hQ | exact hM0 _ (ex _) Q hQ) (.push _ _) ?_ | refine exC_mk (fun Q hQ => by first | exact hM0 _ (.refl _) Q hQ | exact hM0 _ (ex _) Q hQ) ?_
            simp [okFn_low]
            first | refine exX_mk (fun Q hQ => rule_x (N := 0) (l := il L2) (.inr ⟨(H3.length + 1), 0, (il L2).length, Nat.zero_le _, by simp, by simp⟩) i Q hQ) (.refl _) ?_ | refine exC_mk (fun Q hQ => rule_x (N := 0) (l := il L2) (.inr ⟨(H3.length + 1), 0, (il L2).length, Nat.zero_le _, by simp, by simp⟩) i Q hQ) ?_
            simp [hI, hz, cA, tw2c ag24 _ hone, tw2 ag24 _ (s := (.slice (some (H3.length + 1)) 0 (il L2).length 0 1 false)) rfl]
            exact hfin _ (H3.length + 2) H3.length (.slice (some (H3.length + 1)) 0 (il L2).length 0 1 false) (ex _) (by simp) (by simp) (.inr ⟨(H3.length + 1), 0, (il L2).length, Nat.zero_le _, by simp, by simp⟩)
          · refine AWR_U [5, 8, 12, 13, 14, 15] [true, false, true, false, false, false, false, false, false] rfl (by kernel_rfl) ?_
            simp [addE, permL, okFn_low, f50, hI, hz, ex]
            first | refine exX_mk (fun Q hQ => by first | exact rule_x lv3 i Q hQ | exact rule_x (ownF_ext lv3 (ex _)) i Q hQ) (.refl _) ?_ | refine exC_mk (fun Q hQ => by first | exact rule_x lv3 i Q hQ | exact rule_x (ownF_ext lv3 (ex _)) i Q hQ) ?_
            simp [okFn_low]
            first | refine exX_mk (fun Q hQ => by first | exact hM0 _ (.refl _) Q hQ | exact hM0 _ (ex _) Q hQ) (.push _ _) ?_ | refine exC_mk (fun Q hQ => by first | exact hM0 _ (.refl _) Q hQ | exact hM0 _ (ex _) Q hQ) ?_
            simp [okFn_low, hI, hz, ex]
            first | refine exX_mk (fun Q hQ => rule_x (N := 0) (l := il L2) (.inr ⟨(H3.length + 1), 0, (il L2).length, Nat.zero_le _, by simp, by simp⟩) i Q hQ) (.refl _) ?_ | refine exC_mk (fun Q hQ => rule_x (N := 0) (l := il L2) (.inr ⟨(H3.length + 1), 0, (il L2).length, Nat.zero_le _, by simp, by simp⟩) i Q hQ) ?_
            simp [cA, tw2c ag24 _ hone, tw2 ag24 _ (s := (.slice (some (H3.length + 1)) 0 (il L2).length 0 1 false)) rfl]
            exact hfin _ (H3.length + 2) H3.length (.slice (some (H3.length + 1)) 0 (il L2).length 0 1 false) (ex _) (by simp) (by simp) (.inr ⟨(H3.length + 1), 0, (il L2).length, Nat.zero_le _, by simp, by simp⟩)
        · refine AWR_U [5, 8, 12, 13, 14, 15] [true, false, true, false, false, false, false, false, false] rfl (by kernel_rfl) ?_
          simp [addE, permL, okFn_low, f50, hI, hz, ex]
          first | refine exX_mk (fun Q hQ => by first | exact rule_x lv3 i Q hQ | exact rule_x (ownF_ext lv3 (ex _)) i Q hQ) (.refl _) ?_ | refine exC_mk (fun Q hQ => by first | exact rule_x lv3 i Q hQ | exact rule_x (ownF_ext lv3 (ex _)) i Q hQ) ?_
          simp [okFn_low, hI, hz, ex]
          first | refine exX_mk (fun Q hQ => by first | exact hM0 _ (.refl _) Q hQ | exact hM0 _ (ex _) Q hQ) (.push _ _) ?_ | refine exC_mk (fun Q hQ => by first | exact hM0 _ (.refl _) Q hQ | exact hM0 _ (ex _) Q hQ) ?_
          simp [okFn_low]
          first | refine exX_mk (fun Q hQ => rule_x (N := 0) (l := il L2) (.inr ⟨(H3.length + 2), 0, (il L2).length, Nat.zero_le _, by simp, by simp⟩) i Q hQ) (.refl _) ?_ | refine exC_mk (fun Q hQ => rule_x (N := 0) (l := il L2) (.inr ⟨(H3.length + 2), 0, (il L2).length, Nat.zero_le _, by simp, by simp⟩) i Q hQ) ?_
          simp [cA, tw2b ag24 _ hone, tw2 ag24 _ (s := (.slice (some (H3.length + 2)) 0 (il L2).length 0 1 false)) rfl]
          exact hfin _ (H3.length + 1) H3.length (.slice (some (H3.length + 2)) 0 (il L2).length 0 1 false) (ex _) (by simp) (by simp) (.inr ⟨(H3.length + 2), 0, (il L2).length, Nat.zero_le _, by simp, by simp⟩)
    · refine AWR_pair (x := 5) (y := 9) (ord := [0, 1, 2, 3, 4, 9, 5, 6, 7, 8, 10, 11]) (by kernel_rfl) ?_ ?_
      · refine AWR_pair (x := 6) (y := 9) (ord := [0, 1, 2, 3, 4, 5, 9, 6, 7, 8, 10, 11]) (by kernel_rfl) ?_ ?_
        · refine AWR_pair (x := 7) (y := 9) (ord := [0, 1, 2, 3, 4, 5, 6, 9, 7, 8, 10, 11]) (by kernel_rfl) ?_ ?_
          · refine AWR_pair (x := 8) (y := 9) (ord := [0, 1, 2, 3, 4, 5, 6, 7, 9, 8, 10, 11]) (by kernel_rfl) ?_ ?_
            · refine AWR_U [5, 8, 12, 13, 14, 15] [true, false, true, false, false, false, false, false] rfl (by kernel_rfl) ?_
              simp [addE, permL, okFn_low, f50, hI, hz, ex]
              first | refine exX_mk (fun Q hQ => by first | exact rule_x lv3 i Q hQ | exact rule_x (ownF_ext lv3 (ex _)) i Q hQ) (.refl _) ?_ | refine exC_mk (fun Q hQ => by first | exact rule_x lv3 i Q hQ | exact rule_x (ownF_ext lv3 (ex _)) i Q hQ) ?_
              simp [okFn_low]
              first | refine exX_mk (fun Q hQ => by first | exact hM0 _ (.refl _) Q hQ | exact hM0 _ (ex _) Q hQ) (.push _ _) ?_ | refine exC_mk (fun Q hQ => by first | exact hM0 _ (.refl _) Q hQ | exact hM0 _ (ex _) Q hQ) ?_
              simp [okFn_low]
              first | refine exX_mk (fun Q hQ => rule_x (N := 0) (l := il L2) (.inr ⟨(H3.length + 1), 0, (il L2).length, Nat.zero_le _, by simp, by simp⟩) i Q hQ) (.refl _) ?_ | refine exC_mk (fun Q hQ => rule_x (N := 0) (l := il L2) (.inr ⟨(H3.length + 1), 0, (il L2).length, Nat.zero_le _, by simp, by simp⟩) i Q hQ) ?_
              simp [hI, hz, cA, tw2 ag24 _ hone, tw2c ag24 _ (s := (.slice (some (H3.length + 1)) 0 (il L2).length 0 1 false)) rfl]
              exact hfin _ H3.length (H3.length + 2) (.slice (some (H3.length + 1)) 0 (il L2).length 0 1 false) (ex _) (by simp) (by simp) (.inr ⟨(H3.length + 1), 0, (il L2).length, Nat.zero_le _, by simp, by simp⟩)
            · refine AWR_U [5, 8, 12, 13, 14, 15] [true, false, true, false, false, false, false, false, false] rfl (by kernel_rfl) ?_
              simp [addE, permL, okFn_low, f50, hI, hz, ex]
              first | refine exX_mk (fun Q hQ => by first | exact rule_x lv3 i Q hQ | exact rule_x (ownF_ext lv3 (ex _)) i Q hQ) (.refl _) ?_ | refine exC_mk (fun Q hQ => by first | exact rule_x lv3 i Q hQ | exact rule_x (ownF_ext lv3 (ex _)) i Q hQ) ?_
              simp [okFn_low]
              first | refine exX_mk (fun Q hQ => by first | exact hM0 _ (.refl _) Q hQ | exact hM0 _ (ex _) Q hQ) (.push _ _) ?_ | refine exC_mk (fun Q hQ => by first | exact hM0 _ (.refl _) Q hQ | exact hM0 _ (ex _) Q hQ) ?_
              simp [okFn_low, hI, hz, ex]
              first | refine exX_mk (fun Q hQ => rule_x (N := 0) (l := il L2) (.inr ⟨(H3.length + 1), 0, (il L2).length, Nat.zero_le _, by simp, by simp⟩) i Q hQ) (.refl _) ?_ | refine exC_mk (fun Q hQ => rule_x (N := 0) (l := il L2) (.inr ⟨(H3.length + 1), 0, (il L2).length, Nat.zero_le _, by simp, by simp⟩) i Q hQ) ?_
              simp [cA, tw2 ag24 _ hone, tw2c ag24 _ (s := (.slice (some (H3.length + 1)) 0 (il L2).length 0 1 false)) rfl]
              exact hfin _ H3.length (H3.length + 2) (.slice (some (H3.length + 1)) 0 (il L2).length 0 1 false) (ex _) (by simp) (by simp) (.inr ⟨(H3.length + 1), 0, (il L2).length, Nat.zero_le _, by simp, by simp⟩)
          · refine AWR_U [5, 8, 12, 13, 14, 15] [true, false, true, false, false, false, false, false, false] rfl (by kernel_rfl) ?_
            simp [addE, permL, okFn_low, f50, hI, hz, ex]
            first | refine exX_mk (fun Q hQ => by first | exact rule_x lv3 i Q hQ | exact rule_x (ownF_ext lv3 (ex _)) i Q hQ) (.refl _) ?_ | refine exC_mk (fun Q hQ => by first | exact rule_x lv3 i Q hQ | exact rule_x (ownF_ext lv3 (ex _)) i Q hQ) ?_
            simp [okFn_low, hI, hz, ex]
            first | refine exX_mk (fun Q hQ => by first | exact hM0 _ (.refl _) Q hQ | exact hM0 _ (ex _) Q hQ) (.push _ _) ?_ | refine exC_mk (fun Q hQ => by first | exact hM0 _ (.refl _) Q hQ | exact hM0 _ (ex _) Q hQ) ?_
            simp [okFn_low]
            first | refine exX_mk (fun Q hQ => rule_x (N := 0) (l := il L2) (.inr ⟨(H3.length + 2), 0, (il L2).length, Nat.zero_le _, by simp, by simp⟩) i Q hQ) (.refl _) ?_ | refine exC_mk (fun Q hQ => rule_x (N := 0) (l := il L2) (.inr ⟨(H3.length + 2), 0, (il L2).length, Nat.zero_le _, by simp, by simp⟩) i Q hQ) ?_
            simp [cA, tw2 ag24 _ hone, tw2b ag24 _ (s := (.slice (some (H3.length + 2)) 0 (il L2).length 0 1 false)) rfl]
            exact hfin _ H3.length (H3.length + 1) (.slice (some (H3.length + 2)) 0 (il L2).length 0 1 false) (ex _) (by simp) (by simp) (.inr ⟨(H3.length + 2), 0, (il L2).length, Nat.zero_le _, by simp, by simp⟩)
        · refine AWR_U [5, 8, 12, 13, 14, 15] [true, false, true, false, false, false, false, false, false] rfl (by kernel_rfl) ?_
          simp [addE, permL, okFn_low, f50, hI, hz, ex]
          first | refine exX_mk (fun Q hQ => by first | exact rule_x lv3 i Q hQ | exact rule_x (ownF_ext lv3 (ex _)) i Q hQ) (.refl _) ?_ | refine exC_mk (fun Q hQ => by first | exact rule_x lv3 i Q hQ | exact rule_x (ownF_ext lv3 (ex _)) i Q hQ) ?_
          simp [okFn_low]
          first | refine exX_mk (fun Q hQ => by first | exact hM0 _ (.refl _) Q hQ | exact hM0 _ (ex _) Q hQ) (.push _ _) ?_ | refine exC_mk (fun Q hQ => by first | exact hM0 _ (.refl _) Q hQ | exact hM0 _ (ex _) Q hQ) ?_
          simp [okFn_low]
          first | refine exX_mk (fun Q hQ => rule_x (N := 0) (l := il L2) (.inr ⟨(H3.length + 2), 0, (il L2).length, Nat.zero_le _, by simp, by simp⟩) i Q hQ) (.refl _) ?_ | refine exC_mk (fun Q hQ => rule_x (N := 0) (l := il L2) (.inr ⟨(H3.length + 2), 0, (il L2).length, Nat.zero_le _, by simp, by simp⟩) i Q hQ) ?_
          simp [cA, tw2 ag24 _ hone, tw2b ag24 _ (s := (.slice (some (H3.length + 2)) 0 (il L2).length 0 1 false)) rfl]
          exact hfin _ H3.length (H3.length + 1) (.slice (some (H3.length + 2)) 0 (il L2).length 0 1 false) (ex _) (by simp) (by simp) (.inr ⟨(H3.length + 2), 0, (il L2).length, Nat.zero_le _, by simp, by simp⟩)
      · refine AWR_U [5, 8, 12, 13, 14, 15] [true, false, true, false, false, false, false, false, false] rfl (by kernel_rfl) ?_
        simp [addE, permL, okFn_low, f50, hI, hz, ex]
        first | refine exX_mk (fun Q hQ => by first | exact rule_x lv3 i Q hQ | exact rule_x (ownF_ext lv3 (ex _)) i Q hQ) (.refl _) ?_ | refine exC_mk (fun Q hQ => by first | exact rule_x lv3 i Q hQ | exact rule_x (ownF_ext lv3 (ex _)) i Q hQ) ?_
        simp [okFn_low]
        first | refine exX_mk (fun Q hQ => by first | exact hM0 _ (.refl _) Q hQ | exact hM0 _ (ex _) Q hQ) (.push _ _) ?_ | refine exC_mk (fun Q hQ => by first | exact hM0 _ (.refl _) Q hQ | exact hM0 _ (ex _) Q hQ) ?_
        simp [okFn_low]
        first | refine exX_mk (fun Q hQ => rule_x (N := 0) (l := il L2) (.inr ⟨(H3.length + 2), 0, (il L2).length, Nat.zero_le _, by simp, by simp⟩) i Q hQ) (.refl _) ?_ | refine exC_mk (fun Q hQ => rule_x (N := 0) (l := il L2) (.inr ⟨(H3.length + 2), 0, (il L2).length, Nat.zero_le _, by simp, by simp⟩) i Q hQ) ?_
        simp [cA, tw2b ag24 _ hone, tw2 ag24 _ (s := (.slice (some (H3.length + 2)) 0 (il L2).length 0 1 false)) rfl]
        exact hfin _ (H3.length + 1) H3.length (.slice (some (H3.length + 2)) 0 (il L2).length 0 1 false) (ex _) (by simp) (by simp) (.inr ⟨(H3.length + 2), 0, (il L2).length, Nat.zero_le _, by simp, by simp⟩)
end Go.Proofs.Ytcidcihpkdoejaa.Bo
