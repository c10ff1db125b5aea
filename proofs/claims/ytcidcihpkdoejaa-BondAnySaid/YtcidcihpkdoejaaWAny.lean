/- Any so many may open as the reference says: the walk. -/
import Derived.Test.YtcidcihpkdoejaaUni
namespace Go.Proofs.Ytcidcihpkdoejaa.Bo
open Go Go.Proofs.Ytcidcihpkdoejaa Go.Proofs.Ytcidcihpkdoejaa.AX
set_option maxRecDepth 100000

theorem Any_u (n k : Int) : ∃ (m : Int) (L : List Int) (e : Int), L.length ≤ 1000000 ∧ (∀ (H : AH) (Q : AV → AH → Prop), (∀ v H', Ls H' v L → Ext H H' → Q (.tuple [cA m v, .int .i64 e]) H') → AC Try.prog 41 [.int .i64 n, .int .i64 k] H Q) ∧ ∀ (H : AH) (Q : AV → AH → Prop), (∀ v H', Ls H' v L → Ext H H' → Q (.tuple [cA m v, .int .i64 e]) H') → AC Try.prog 42 [.int .i64 n, .int .i64 k] H Q := by
  by_cases hb : 1 ≤ n ∧ n ≤ 6 ∧ 0 ≤ k ∧ k ≤ n
  · obtain ⟨x, rfl⟩ : ∃ x : Nat, n = x := ⟨n.toNat, by omega⟩
    obtain ⟨y, rfl⟩ : ∃ y : Nat, k = y := ⟨k.toNat, by omega⟩
    have h1 : 1 ≤ x := by omega
    have h6 : x ≤ 6 := by omega
    have hy : y ≤ x := by omega
    have h20 := (any_is h1 h6 hy).2.2.2.1
    exact ⟨x, il (sizeS x y), 0, by rw [il_len]; omega, fun H Q h => Any_ok h1 h6 hy H Q fun v H' ho hE => h v H' (ownF_ls ho) hE, fun H Q h => AnyR_ok h1 h6 hy H Q fun v H' ho hE => h v H' (ownF_ls ho) hE⟩
  · exact ⟨0, [], 1, by simp, fun H Q h => Any_bad n k hb H Q (h _ H (Ls.nil H) (.refl H)), fun H Q h => AnyR_bad n k hb H Q (h _ H (Ls.nil H) (.refl H))⟩
theorem law6_ac (n k : Int) (H : AH) : AC Try.prog 6 [.int .i64 n, .int .i64 k] H fun v _ => v = .bool true := by
  refine L_body 41 Try.func6 rfl rfl ?_
  obtain ⟨I, hI, hz⟩ := zeroT_some zt24
  obtain ⟨J, hJ, hzJ⟩ := zeroT_some zt27
  obtain ⟨m, L, e, hL, A, B⟩ := Any_u n k
  refine L_reg [0, 1] (fun K hK => ?_)
  simp
  apply hK; clear hK K

  refine L_reg [0, 1, 5, 6] (fun K hK => ?_)
  simp [okFn_low]
  refine A _ _ (fun x G1 lx hEG1 => ?_)
  have hstgx := st2 (t := 24) ag24 (n := m) (s := x) (k := 0) (n' := 0) (s' := nilS) (p := G1.length) (H := G1 ++ [AObj.row [.int .i64 0, nilS] 0 0 false]) (by simp) (by intro h; cases h) (ls_one lx)
  simp [hI, hz, hstgx, cA]
  apply hK; clear hK K
  have gx : (G1 ++ [AObj.row [.int .i64 m, x] 0 0 false])[G1.length]? = some (.row [.int .i64 m, x] 0 0 false) := by simp
  have hPgx : Ext G1 (G1 ++ [AObj.row [.int .i64 m, x] 0 0 false]) := .push _ _
  have hQgx := hEG1.trans hPgx
  have lx := lx.ext hPgx
  clear hstgx
  generalize G1 ++ [AObj.row [.int .i64 m, x] 0 0 false] = G2 at *
  generalize G1.length = pgx at *
  refine L_reg [5, 6, 7, 8] (fun K hK => ?_)
  simp [okFn_low]
  refine B _ _ (fun y G3 ly hEG3 => ?_)
  have hstgy := st2 (t := 27) ag27 (n := m) (s := y) (k := 0) (n' := 0) (s' := nilS) (p := G3.length) (H := G3 ++ [AObj.row [.int .i64 0, nilS] 0 0 false]) (by simp) (by intro h; cases h) (ls_one ly)
  simp [hJ, hzJ, hstgy, cA]
  apply hK; clear hK K
  have gy : (G3 ++ [AObj.row [.int .i64 m, y] 0 0 false])[G3.length]? = some (.row [.int .i64 m, y] 0 0 false) := by simp
  have hPgy : Ext G3 (G3 ++ [AObj.row [.int .i64 m, y] 0 0 false]) := .push _ _
  have hQgy := hEG3.trans hPgy
  have lx := lx.ext hQgy
  have gx : (G3 ++ [AObj.row [.int .i64 m, y] 0 0 false])[pgx]? = some (.row [.int .i64 m, x] 0 0 false) := by rw [hQgy.2 _ (List.getElem?_eq_some_iff.1 gx).1]; exact gx
  have ly := ly.ext hPgy
  clear hstgy
  generalize G3 ++ [AObj.row [.int .i64 m, y] 0 0 false] = G4 at *
  generalize G3.length = pgy at *
  have hxk := ls_known lx
  have hyk := ls_known ly
  have x0 := ld_c0 gx
  have x1 := ld_c1 gx hxk
  have y0 := ld_c0 gy
  have y1 := ld_c1 gy hyk
  refine L_reg [4] (fun K hK => ?_)
  simp [okFn_low, x0, y0, x1, y1]
  refine sameI_q x y L hL _ lx ly _ ?_
  simp [okFn_low, pickV]
  refine works_ac _ _ ?_
  simp [pickV]
  apply hK; clear hK K
  exact L_ret ⟨.inr rfl, _, rfl, rfl⟩
end Go.Proofs.Ytcidcihpkdoejaa.Bo
