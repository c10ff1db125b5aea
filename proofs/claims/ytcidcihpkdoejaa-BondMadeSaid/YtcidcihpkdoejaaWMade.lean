/- Plans are made, compared and made thin as the reference says: the walk. -/
import Derived.Test.YtcidcihpkdoejaaUni
namespace Go.Proofs.Ytcidcihpkdoejaa.Bo
open Go Go.Proofs.Ytcidcihpkdoejaa Go.Proofs.Ytcidcihpkdoejaa.AX
set_option maxRecDepth 100000

theorem tw2 {t : TypeId} (ht : aggSz Try.prog t = some 2) (H : AH) {n : Int} {s : AV} (ho : s.one = true) (T : AH) : storeV Try.prog t (H ++ .row [.int .i64 0, .slice none 0 0 0 1 false] 0 0 false :: T) (.ptr H.length 0 0) (.agg [.int .i64 n, s]) = some (none, H ++ .row [.int .i64 n, s] 0 0 false :: T) := by
  rw [st2 ht (n' := 0) (s' := nilS) (k := 0) (by simp) (by intro h; cases h) ho]; simp
theorem tw2b {t : TypeId} (ht : aggSz Try.prog t = some 2) (H : AH) {n : Int} {s : AV} (ho : s.one = true) (A : AObj) (T : AH) : storeV Try.prog t (H ++ A :: .row [.int .i64 0, .slice none 0 0 0 1 false] 0 0 false :: T) (.ptr (H.length + 1) 0 0) (.agg [.int .i64 n, s]) = some (none, H ++ A :: .row [.int .i64 n, s] 0 0 false :: T) := by
  rw [st2 ht (n' := 0) (s' := nilS) (k := 0) (by simp) (by intro h; cases h) ho]; simp
set_option maxHeartbeats 4000000 in
theorem law5_ac (n : Int) (l : List Int) (s : AV) (n' : Int) (l' : List Int) (s' : AV) (H : AH) (hs : Ls H s l) (ht : Ls H s' l') : AC Try.prog 5 [cA n s, cA n' s'] H fun v _ => v = .bool true := by
  refine L_body 111 Try.func5 rfl rfl ?_
  obtain ⟨I, hI, hz⟩ := zeroT_some zt27
  obtain ⟨J, hJ, hzJ⟩ := zeroT_some zt41
  obtain ⟨I4, hI4, hz4⟩ := zeroT_some zt40
  have hk := ls_known hs
  have hk' := ls_known ht
  refine L_reg [2, 3] (fun K hK => ?_)
  simp [cA, AV.isU, acells]
  apply hK; clear hK K
  have g0 : (H ++ [AObj.row [.int .i64 n, s] 0 0 false, AObj.row [.int .i64 n', s'] 0 0 false])[H.length]? = some (.row [.int .i64 n, s] 0 0 false) := by simp
  have g1 : (H ++ [AObj.row [.int .i64 n, s] 0 0 false, AObj.row [.int .i64 n', s'] 0 0 false])[H.length + 1]? = some (.row [.int .i64 n', s'] 0 0 false) := by simp
  have hs := hs.ext (.push H [AObj.row [.int .i64 n, s] 0 0 false, AObj.row [.int .i64 n', s'] 0 0 false])
  have ht := ht.ext (.push H [AObj.row [.int .i64 n, s] 0 0 false, AObj.row [.int .i64 n', s'] 0 0 false])
  generalize H ++ [AObj.row [.int .i64 n, s] 0 0 false, AObj.row [.int .i64 n', s'] 0 0 false] = H1 at g0 g1 hs ht ⊢
  generalize H.length + 1 = p1 at g1 ⊢
  generalize H.length = p0 at g0 ⊢
  have c0 := ld_c1 g0 hk
  have c1 := ld_c1 g1 hk'
  refine L_reg [2, 3, 26] (fun K hK => ?_)
  suffices hkk : K [(2, .ptr p0 0 0), (3, .ptr p1 0 0), (26, .bool (decide (200 < l.length) || decide (200 < l'.length)))] H1 by
    simp [okFn_low, c0]
    refine large_q s l _ hs _ ?_
    cases hL : decide (200 < l.length) with
    | true => rw [hL] at hkk; simp [pickV]; simpa using hkk
    | false =>
      rw [hL] at hkk
      simp [okFn_low, c1]
      refine large_q s' l' _ ht _ ?_
      simp [pickV]
      simpa using hkk
  apply hK; clear hK K
  by_cases hL : 200 < l.length ∨ 200 < l'.length
  · refine L_true (by simpa using hL) ?_
    refine L_reg [4] (fun K hK => ?_)
    simp [okFn_low]
    refine works_ac _ _ ?_
    simp
    apply hK; clear hK K
    exact L_ret ⟨.inr rfl, _, rfl, rfl⟩
  refine L_false (by simpa using hL) ?_
  have hlen : l.length ≤ 1000000 := by omega
  have hlen' : l'.length ≤ 1000000 := by omega
  obtain ⟨m, L, e, zL, A, B⟩ := Make_u n l s hlen
  obtain ⟨m2, L2, e2, zL2, A2, B2⟩ := Thin_u n' l' s' hlen'
  have a0 := ldn_c g0 hk
  have a1 := ldn_c g1 hk'
  have o1 := ls_one hs
  have o2 := ls_one ht
  refine L_regU2 mixed 2 3 [0, 1, 3, 2, 4, 5] [true, true, false, false, false] [true, true, false, false, false] [2, 3, 5, 6] (by kernel_rfl) rfl rfl (by kernel_rfl) (by kernel_rfl) (fun K hK => ?_)
  have hk9 : ∀ (H8 : AH) (q5 q6 : Nat), Ext H1 H8 → H8[q5]? = some (.row [.int .i64 n, s] 0 0 false) → H8[q6]? = some (.row [.int .i64 n', s'] 0 0 false) → K [(2, .ptr p0 0 0), (3, .ptr p1 0 0), (5, .ptr q5 0 0), (6, .ptr q6 0 0)] H8 := by
    intro H8 q5 q6 hE8 g5 g6
    apply hK; clear hK K
    have hs := hs.ext hE8
    have ht := ht.ext hE8
    have g0 : H8[p0]? = some (.row [.int .i64 n, s] 0 0 false) := by rw [hE8.2 _ (List.getElem?_eq_some_iff.1 g0).1]; exact g0
    have g1 : H8[p1]? = some (.row [.int .i64 n', s'] 0 0 false) := by rw [hE8.2 _ (List.getElem?_eq_some_iff.1 g1).1]; exact g1
    clear hE8 c0 c1 a0 a1
    have aa := ldn_c g0 hk
    refine L_reg [2, 3, 5, 6, 7, 8] (fun K hK => ?_)
    simp [okFn_low, aa]
    refine A _ hs _ (fun x G1 lx hEG1 => ?_)
    have hstgx := st2 (t := 40) ag40 (n := m) (s := x) (k := 0) (n' := 0) (s' := nilS) (p := G1.length) (H := G1 ++ [AObj.row [.int .i64 0, nilS] 0 0 false]) (by simp) (by intro h; cases h) (ls_one lx)
    simp [hI4, hz4, hstgx, cA]
    apply hK; clear hK K
    have gx : (G1 ++ [AObj.row [.int .i64 m, x] 0 0 false])[G1.length]? = some (.row [.int .i64 m, x] 0 0 false) := by simp
    have hPgx : Ext G1 (G1 ++ [AObj.row [.int .i64 m, x] 0 0 false]) := .push _ _
    have hQgx := hEG1.trans hPgx
    have hs := hs.ext hQgx
    have ht := ht.ext hQgx
    have g0 : (G1 ++ [AObj.row [.int .i64 m, x] 0 0 false])[p0]? = some (.row [.int .i64 n, s] 0 0 false) := by rw [hQgx.2 _ (List.getElem?_eq_some_iff.1 g0).1]; exact g0
    have g1 : (G1 ++ [AObj.row [.int .i64 m, x] 0 0 false])[p1]? = some (.row [.int .i64 n', s'] 0 0 false) := by rw [hQgx.2 _ (List.getElem?_eq_some_iff.1 g1).1]; exact g1
    have g5 : (G1 ++ [AObj.row [.int .i64 m, x] 0 0 false])[q5]? = some (.row [.int .i64 n, s] 0 0 false) := by rw [hQgx.2 _ (List.getElem?_eq_some_iff.1 g5).1]; exact g5
    have g6 : (G1 ++ [AObj.row [.int .i64 m, x] 0 0 false])[q6]? = some (.row [.int .i64 n', s'] 0 0 false) := by rw [hQgx.2 _ (List.getElem?_eq_some_iff.1 g6).1]; exact g6
    have lx := lx.ext hPgx
    clear hstgx
    generalize G1 ++ [AObj.row [.int .i64 m, x] 0 0 false] = G2 at *
    generalize G1.length = pgx at *
    have aa := ldn_c g5 hk
    refine L_reg [2, 3, 5, 6, 7, 8, 9, 10] (fun K hK => ?_)
    simp [okFn_low, aa]
    refine B _ hs _ (fun y G3 ly hEG3 => ?_)
    have hstgy := st2 (t := 41) ag41 (n := m) (s := y) (k := 0) (n' := 0) (s' := nilS) (p := G3.length) (H := G3 ++ [AObj.row [.int .i64 0, nilS] 0 0 false]) (by simp) (by intro h; cases h) (ls_one ly)
    simp [hJ, hzJ, hstgy, cA]
    apply hK; clear hK K
    have gy : (G3 ++ [AObj.row [.int .i64 m, y] 0 0 false])[G3.length]? = some (.row [.int .i64 m, y] 0 0 false) := by simp
    have hPgy : Ext G3 (G3 ++ [AObj.row [.int .i64 m, y] 0 0 false]) := .push _ _
    have hQgy := hEG3.trans hPgy
    have hs := hs.ext hQgy
    have ht := ht.ext hQgy
    have lx := lx.ext hQgy
    have g0 : (G3 ++ [AObj.row [.int .i64 m, y] 0 0 false])[p0]? = some (.row [.int .i64 n, s] 0 0 false) := by rw [hQgy.2 _ (List.getElem?_eq_some_iff.1 g0).1]; exact g0
    have g1 : (G3 ++ [AObj.row [.int .i64 m, y] 0 0 false])[p1]? = some (.row [.int .i64 n', s'] 0 0 false) := by rw [hQgy.2 _ (List.getElem?_eq_some_iff.1 g1).1]; exact g1
    have g5 : (G3 ++ [AObj.row [.int .i64 m, y] 0 0 false])[q5]? = some (.row [.int .i64 n, s] 0 0 false) := by rw [hQgy.2 _ (List.getElem?_eq_some_iff.1 g5).1]; exact g5
    have g6 : (G3 ++ [AObj.row [.int .i64 m, y] 0 0 false])[q6]? = some (.row [.int .i64 n', s'] 0 0 false) := by rw [hQgy.2 _ (List.getElem?_eq_some_iff.1 g6).1]; exact g6
    have gx : (G3 ++ [AObj.row [.int .i64 m, y] 0 0 false])[pgx]? = some (.row [.int .i64 m, x] 0 0 false) := by rw [hQgy.2 _ (List.getElem?_eq_some_iff.1 gx).1]; exact gx
    have ly := ly.ext hPgy
    clear hstgy
    generalize G3 ++ [AObj.row [.int .i64 m, y] 0 0 false] = G4 at *
    generalize G3.length = pgy at *
    have aa := ldn_c g0 hk
    have ab := ldn_c g1 hk'
    refine L_reg [3, 5, 6, 7, 8, 9, 10, 11, 12] (fun K hK => ?_)
    simp [okFn_low, aa, ab]
    refine Fits_q n n' l l' s s' hlen hlen' _ hs ht _ ?_
    simp
    apply hK; clear hK K
    have aa := ldn_c g5 hk
    have ab := ldn_c g6 hk'
    refine L_reg [3, 6, 7, 8, 9, 10, 11, 12, 13, 14] (fun K hK => ?_)
    simp [okFn_low, aa, ab]
    refine FitsR_q n n' l l' s s' hlen hlen' _ hs ht _ ?_
    simp
    apply hK; clear hK K
    have aa := ldn_c g1 hk'
    refine L_reg [6, 7, 8, 9, 10, 11, 12, 13, 14, 15, 16] (fun K hK => ?_)
    simp [okFn_low, aa]
    refine A2 _ ht _ (fun u G5 lu hEG5 => ?_)
    have hstgu := st2 (t := 40) ag40 (n := m2) (s := u) (k := 0) (n' := 0) (s' := nilS) (p := G5.length) (H := G5 ++ [AObj.row [.int .i64 0, nilS] 0 0 false]) (by simp) (by intro h; cases h) (ls_one lu)
    simp [hI4, hz4, hstgu, cA]
    apply hK; clear hK K
    have gu : (G5 ++ [AObj.row [.int .i64 m2, u] 0 0 false])[G5.length]? = some (.row [.int .i64 m2, u] 0 0 false) := by simp
    have hPgu : Ext G5 (G5 ++ [AObj.row [.int .i64 m2, u] 0 0 false]) := .push _ _
    have hQgu := hEG5.trans hPgu
    have hs := hs.ext hQgu
    have ht := ht.ext hQgu
    have lx := lx.ext hQgu
    have ly := ly.ext hQgu
    have g0 : (G5 ++ [AObj.row [.int .i64 m2, u] 0 0 false])[p0]? = some (.row [.int .i64 n, s] 0 0 false) := by rw [hQgu.2 _ (List.getElem?_eq_some_iff.1 g0).1]; exact g0
    have g1 : (G5 ++ [AObj.row [.int .i64 m2, u] 0 0 false])[p1]? = some (.row [.int .i64 n', s'] 0 0 false) := by rw [hQgu.2 _ (List.getElem?_eq_some_iff.1 g1).1]; exact g1
    have g5 : (G5 ++ [AObj.row [.int .i64 m2, u] 0 0 false])[q5]? = some (.row [.int .i64 n, s] 0 0 false) := by rw [hQgu.2 _ (List.getElem?_eq_some_iff.1 g5).1]; exact g5
    have g6 : (G5 ++ [AObj.row [.int .i64 m2, u] 0 0 false])[q6]? = some (.row [.int .i64 n', s'] 0 0 false) := by rw [hQgu.2 _ (List.getElem?_eq_some_iff.1 g6).1]; exact g6
    have gx : (G5 ++ [AObj.row [.int .i64 m2, u] 0 0 false])[pgx]? = some (.row [.int .i64 m, x] 0 0 false) := by rw [hQgu.2 _ (List.getElem?_eq_some_iff.1 gx).1]; exact gx
    have gy : (G5 ++ [AObj.row [.int .i64 m2, u] 0 0 false])[pgy]? = some (.row [.int .i64 m, y] 0 0 false) := by rw [hQgu.2 _ (List.getElem?_eq_some_iff.1 gy).1]; exact gy
    have lu := lu.ext hPgu
    clear hstgu
    generalize G5 ++ [AObj.row [.int .i64 m2, u] 0 0 false] = G6 at *
    generalize G5.length = pgu at *
    have aa := ldn_c g6 hk'
    refine L_reg [7, 8, 9, 10, 11, 12, 13, 14, 15, 16, 17, 18] (fun K hK => ?_)
    simp [okFn_low, aa]
    refine B2 _ ht _ (fun v G7 lv hEG7 => ?_)
    have hstgv := st2 (t := 41) ag41 (n := m2) (s := v) (k := 0) (n' := 0) (s' := nilS) (p := G7.length) (H := G7 ++ [AObj.row [.int .i64 0, nilS] 0 0 false]) (by simp) (by intro h; cases h) (ls_one lv)
    simp [hJ, hzJ, hstgv, cA]
    apply hK; clear hK K
    have gv : (G7 ++ [AObj.row [.int .i64 m2, v] 0 0 false])[G7.length]? = some (.row [.int .i64 m2, v] 0 0 false) := by simp
    have hPgv : Ext G7 (G7 ++ [AObj.row [.int .i64 m2, v] 0 0 false]) := .push _ _
    have hQgv := hEG7.trans hPgv
    have hs := hs.ext hQgv
    have ht := ht.ext hQgv
    have lx := lx.ext hQgv
    have ly := ly.ext hQgv
    have lu := lu.ext hQgv
    have g0 : (G7 ++ [AObj.row [.int .i64 m2, v] 0 0 false])[p0]? = some (.row [.int .i64 n, s] 0 0 false) := by rw [hQgv.2 _ (List.getElem?_eq_some_iff.1 g0).1]; exact g0
    have g1 : (G7 ++ [AObj.row [.int .i64 m2, v] 0 0 false])[p1]? = some (.row [.int .i64 n', s'] 0 0 false) := by rw [hQgv.2 _ (List.getElem?_eq_some_iff.1 g1).1]; exact g1
    have g5 : (G7 ++ [AObj.row [.int .i64 m2, v] 0 0 false])[q5]? = some (.row [.int .i64 n, s] 0 0 false) := by rw [hQgv.2 _ (List.getElem?_eq_some_iff.1 g5).1]; exact g5
    have g6 : (G7 ++ [AObj.row [.int .i64 m2, v] 0 0 false])[q6]? = some (.row [.int .i64 n', s'] 0 0 false) := by rw [hQgv.2 _ (List.getElem?_eq_some_iff.1 g6).1]; exact g6
    have gx : (G7 ++ [AObj.row [.int .i64 m2, v] 0 0 false])[pgx]? = some (.row [.int .i64 m, x] 0 0 false) := by rw [hQgv.2 _ (List.getElem?_eq_some_iff.1 gx).1]; exact gx
    have gy : (G7 ++ [AObj.row [.int .i64 m2, v] 0 0 false])[pgy]? = some (.row [.int .i64 m, y] 0 0 false) := by rw [hQgv.2 _ (List.getElem?_eq_some_iff.1 gy).1]; exact gy
    have gu : (G7 ++ [AObj.row [.int .i64 m2, v] 0 0 false])[pgu]? = some (.row [.int .i64 m2, u] 0 0 false) := by rw [hQgv.2 _ (List.getElem?_eq_some_iff.1 gu).1]; exact gu
    have lv := lv.ext hPgv
    clear hstgv
    generalize G7 ++ [AObj.row [.int .i64 m2, v] 0 0 false] = G8 at *
    generalize G7.length = pgv at *
    have kx := ls_known lx
    have ky := ls_known ly
    have ku := ls_known lu
    have kv := ls_known lv
    have x0 := ld_c0 gx
    have x1 := ld_c1 gx kx
    have y0 := ld_c0 gy
    have y1 := ld_c1 gy ky
    have u0 := ld_c0 gu
    have u1 := ld_c1 gu ku
    have v0 := ld_c0 gv
    have v1 := ld_c1 gv kv
    refine L_reg [4] (fun K hK => ?_)
    simp [okFn_low, x0, y0, x1, y1]
    refine sameI_q x y L zL _ lx ly _ ?_
    simp [okFn_low, pickV, u0, u1, v0, v1]
    refine sameI_q u v L2 zL2 _ lu lv _ ?_
    simp [okFn_low, pickV]
    refine works_ac _ _ ?_
    simp [pickV]
    apply hK; clear hK K
    exact L_ret ⟨.inr rfl, _, rfl, rfl⟩
  have ex : ∀ T : AH, Ext H1 (H1 ++ T) := fun T => .push _ _
  constructor
  · simp [addE, a0, a1, hI, hz, hJ, hzJ, tw2 ag27 _ o1, tw2b ag41 _ o2]
    exact ⟨ex _, ex _, ex _, hk9 _ _ _ (ex _) (by simp) (by simp)⟩
  · simp [addE, permL, a0, a1, hI, hz, hJ, hzJ, tw2b ag27 _ o1, tw2 ag41 _ o2]
    exact ⟨ex _, ex _, ex _, hk9 _ _ _ (ex _) (by simp) (by simp)⟩
end Go.Proofs.Ytcidcihpkdoejaa.Bo
