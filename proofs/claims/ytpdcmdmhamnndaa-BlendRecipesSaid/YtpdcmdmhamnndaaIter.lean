/- The round of a size, ranged over: how many blends there are. -/
import Derived.Test.YtpdcmdmhamnndaaSmall
import Derived.Test.YtpdcmdmhamnndaaAx3
namespace Go.Proofs.Ytpdcmdmhamnndaa
open Go Go.Proofs.Ytpdcmdmhamnndaa.AX

set_option maxRecDepth 100000 in
theorem round1_ac (n k : Nat) (hk : k ≤ n) (hn : n ≤ 10) (r ps pl s1 s2 : Nat) (J : List (List Int) → AH → Prop) (Z : AH → Prop) (H : AH) (Q : AV → AH → Prop) (hs : H[ps]? = some (.row [.int .i64 k] 0 s1 false)) (hl : H[pl]? = some (.row [.int .i64 n] 0 s2 false)) (hr : r < H.length)
    (hF : Fd r H.length k J Z) (hJ : J (roundS n k) H) (h1 : ∀ H', J [] H' → Q (.tuple []) H') (h2 : ∀ H', Z H' → Q (.tuple []) H') : AC Try.prog 99 [.yld r, .ptr ps 0 0, .ptr pl 0 0] H Q := by
  have e1 : ld H ps 0 0 = some (.int .i64 k) := by rw [ld_row hs]; rfl
  have e2 : ld H pl 0 0 = some (.int .i64 n) := by rw [ld_row hl]; rfl
  refine L_body 11 Try.func99 rfl rfl ?_
  refine L_regL mixed [] (by simp) (by kernel_rfl) (fun K hK => ?_)
  simp [e1, e2, make_z elz22 (show k ≤ 16777216 by omega), okFn_low]
  have hw : (H ++ [AObj.row (List.replicate k (AV.int .i64 0)) 0 0 false])[H.length]? = some (.row ((List.replicate k (0 : Int)).map (.int .i64)) 0 0 false) := by simp
  have hJ1 := hF.same _ _ (H ++ [AObj.row (List.replicate k (AV.int .i64 0)) 0 0 false]) ⟨by simp, fun j _ hj => List.getElem?_append_left hj⟩ hJ
  refine turn_ok hF hr n hn k false [] (List.replicate k 0) [] 0 _ _ hk (by simp) (by simp) (Nat.le_refl _) hw (by simpa [feed] using hJ1) (fun H' c' st' g1 gk g2 g3 g4 => ?_) (fun H' g1 => ?_)
  · simp
    apply hK; clear hK K
    exact ⟨.inl rfl, _, rfl, h1 _ g1⟩
  · simp
    apply hK; clear hK K
    exact ⟨.inl rfl, _, rfl, h2 _ g1⟩
theorem round_ac (n k : Int) (H : AH) (Q : AV → AH → Prop) (h : Q (.func (.func 99) [] [.ptr (H.length + 1) 0 0, .ptr H.length 0 0]) (H ++ [.row [.int .i64 n] 0 0 false] ++ [.row [.int .i64 k] 0 0 false])) : AC Try.prog 86 [.int .i64 n, .int .i64 k] H Q := by
  refine L_body 6 Try.func86 rfl rfl ?_
  refine L_reg [2, 3] (fun K hK => ?_)
  simp [AV.isU, acells]
  apply hK; clear hK K
  refine L_reg [4] (fun K hK => ?_)
  simp
  apply hK; clear hK K
  exact L_ret ⟨.inr rfl, _, rfl, by simpa using h⟩

/-- Three rows behind H: a number, and what a round is made of. -/
theorem rows3 (H : AH) (a b c : AObj) : (H ++ [a] ++ [b] ++ [c])[H.length]? = some a ∧ (H ++ [a] ++ [b] ++ [c])[H.length + 1]? = some b ∧ (H ++ [a] ++ [b] ++ [c])[H.length + 2]? = some c ∧ (H ++ [a] ++ [b] ++ [c]).length = H.length + 3 ∧ Ext H (H ++ [a] ++ [b] ++ [c]) := by
  refine ⟨?_, ?_, ?_, by simp, ?_⟩
  · simp [List.append_assoc]
  · simp [List.append_assoc]
  · simp [List.append_assoc]
  · rw [List.append_assoc, List.append_assoc]; exact .push _ _
theorem set_ne {H : AH} {i j : Nat} {o : AObj} (h : i ≠ j) : (H.set i o)[j]? = H[j]? := List.getElem?_set_ne h

theorem st_zero (H : AH) (v : Int) : storeV Try.prog 3 (H ++ [AObj.row [AV.int .i64 0] 0 0 false]) (.ptr H.length 0 0) (.int .i64 v) = some (none, H ++ [.row [.int .i64 v] 0 0 false]) := store_last sc3 (y := .int .i64 0) rfl rfl
/-- What three rows behind H turn to. -/
theorem below_ext {H H1 H2 : AH} {w : Nat} (hE : Ext H H1) (hw : H.length ≤ w) (hl : w ≤ H2.length) (h : ∀ j, j < w → H2[j]? = H1[j]?) : Ext H H2 := ⟨by omega, fun j hj => by rw [h j (by omega), hE.2 j hj]⟩

set_option maxRecDepth 100000 in
theorem many_ac (n k : Nat) (hk : k ≤ n) (hn : n ≤ 10) (H : AH) (Q : AV → AH → Prop) (hT : (roundS n k).length ≤ 1000000) (h : ∀ H', Ext H H' → Q (.int .i64 (roundS n k).length) H') : AC Try.prog 60 [.int .i64 n, .int .i64 k] H Q := by
  refine L_body 13 Try.func60 rfl rfl ?_
  refine L_reg [0, 1] (fun K hK => ?_)
  simp
  apply hK; clear hK K
  refine L_reg [0, 1, 5] (fun K hK => ?_)
  simp [alloc_z zt3, st_zero]
  apply hK; clear hK K
  refine L_reg [5, 8] (fun K hK => ?_)
  simp [okFn_low]
  refine round_ac n k _ _ ?_
  simp
  apply hK; clear hK K
  obtain ⟨a1, a2, a3, a4, a5⟩ := rows3 H (.row [.int .i64 0] 0 0 false) (.row [.int .i64 n] 0 0 false) (.row [.int .i64 k] 0 0 false)
  simp only [List.append_assoc, List.cons_append, List.nil_append] at a1 a2 a3 a4 a5
  generalize H ++ [AObj.row [.int .i64 0] 0 0 false, .row [.int .i64 n] 0 0 false, .row [.int .i64 k] 0 0 false] = H1 at a1 a2 a3 a4 a5 ⊢
  generalize hp : H.length = p at a1 a2 a3 a4 ⊢
  refine L_block (L_range [5] rfl (okFn_low (by omega) (by omega)) ?_)
  generalize hL : (⟨13, _, _, _, _⟩ : LR) = L
  have hnt : L.nt = 13 := by rw [← hL]
  have hps : L.ps = #[9] := by rw [← hL]
  have hass : L.assign = .skip := by rw [← hL]
  have he : L.e = [(5, .ptr p 0 0)] := by rw [← hL]; rfl
  have hbody := congrArg LR.body hL.symm
  clear hL
  obtain ⟨T, hTT⟩ : ∃ T, T = (roundS n k).length := ⟨_, rfl⟩
  have hr0 : (H1 ++ [AObj.loop .ready .normal L])[H1.length]? = some (.loop .ready .normal L) := by simp
  have hlen : (H1 ++ [AObj.loop .ready .normal L]).length = p + 4 := by simp [a4]
  have hin : ∀ j, j < H1.length → (H1 ++ [AObj.loop .ready .normal L])[j]? = H1[j]? := fun j hj => List.getElem?_append_left hj
  refine round1_ac n k hk hn H1.length (p + 2) (p + 1) 0 0 (fun rest H' => p + 4 ≤ H'.length ∧ rest.length ≤ T ∧ (∃ s, H'[p]? = some (.row [.int .i64 ((T - rest.length : Nat) : Int)] 0 s false)) ∧ H'[H1.length]? = some (.loop .ready .normal L) ∧ Ext H H') (fun _ => False) _ _ (by rw [hin _ (by omega)]; exact a3) (by rw [hin _ (by omega)]; exact a2) (by simp) ?_ ?_ ?_ ?_
  · rw [hlen]
    refine ⟨fun rest H2 H3 hsame ⟨g0, g1, ⟨s, g2⟩, g3, g4⟩ => ?_, fun l rest H2 st ⟨g0, g1, ⟨s, g2⟩, g3, g4⟩ hrow => ?_⟩
    · have e2 : H3[p]? = _ := (hsame.2 p (by omega) (by omega)).trans g2
      have e3 : H3[H1.length]? = _ := (hsame.2 _ (by omega) (by omega)).trans g3
      have hl3 : H1.length < H3.length := (List.getElem?_eq_some_iff.1 e3).1
      exact ⟨by omega, g1, ⟨s, e2⟩, e3, below_ext (w := p) g4 (by omega) (by omega) (fun j hj => hsame.2 j (by omega) (by omega))⟩
    · have hwl := lt_of_row hrow
      have hg1 : rest.length + 1 ≤ T := by simpa using g1
      refine AYld_mk g3 (by rw [hps]; rfl) (by rw [hps, hnt]; simp) hass ?_
      rw [hnt, hps, he, hbody]
      have b2 : (H2.set H1.length (.loop .busy .normal L))[p]? = some (.row [.int .i64 ((T - (rest.length + 1) : Nat) : Int)] 0 s false) := by rw [set_ne (by omega)]; exact g2
      have e2 : ld (H2.set H1.length (.loop .busy .normal L)) p 0 0 = some (.int .i64 ((T - (rest.length + 1) : Nat) : Int)) := by rw [ld_row b2]; rfl
      have hst := store_row (P := Try.prog) (u := 3) (p := 0) sc3 (x := .int .i64 ((T - rest.length : Nat) : Int)) (y := .int .i64 ((T - (rest.length + 1) : Nat) : Int)) rfl b2 rfl
      have hadd : ((T - (rest.length + 1) : Nat) : Int) + 1 = ((T - rest.length : Nat) : Int) := by omega
      refine L_block ?_
      refine L_reg [] (fun K hK => ?_)
      simp [psEnv, e2, hadd, wrap_i64 (a := ((T - rest.length : Nat) : Int)) (by omega), hst]
      apply hK; clear hK K
      refine ⟨.busy, .normal, L, by rw [set_ne (by omega), List.getElem?_set_self (by omega)], true, rfl, ?_⟩
      simp only [if_true]
      refine ⟨⟨by simp; omega, by omega, ⟨0, ?_⟩, ?_, ?_⟩, ⟨by simp, fun j N0 r0 s0 h1 h2 => ?_⟩, st, ?_⟩
      · rw [set_ne (by omega), get_set b2]
      · rw [List.getElem?_set_self (by simp; omega)]
      · refine below_ext (w := p) g4 (by omega) (by simp; omega) fun j hj => ?_
        rw [set_ne (by omega), set_ne (by omega), set_ne (by omega)]
      · rw [set_ne (by omega), set_ne (by omega), set_ne (by omega)]; exact h2
      · rw [set_ne (by omega), set_ne (by omega), set_ne (by omega)]; exact hrow
  · refine ⟨by omega, by omega, ⟨0, ?_⟩, hr0, a5.trans (.push _ _)⟩
    rw [hin _ (by omega), a1, ← hTT, Nat.sub_self]; rfl
  · rintro H' ⟨g0, -, ⟨s, g2⟩, g3, g4⟩
    refine ⟨.ready, .normal, L, g3, by simp, ?_⟩
    have b2 : (H'.set H1.length (.loop .exhausted .normal L))[p]? = some (.row [.int .i64 (T : Int)] 0 s false) := by rw [set_ne (by omega)]; exact g2
    have e2 : ld (H'.set H1.length (.loop .exhausted .normal L)) p 0 0 = some (.int .i64 (T : Int)) := by rw [ld_row b2]; rfl
    show AWL _ _ _ _ _ _
    refine L_reg [4] (fun K hK => ?_)
    simp [e2]
    apply hK; clear hK K
    exact L_ret ⟨.inr rfl, _, rfl, by rw [hTT]; exact h _ (g4.set _ (by omega))⟩
  · intro H' h; exact h.elim
theorem many_q (n k : Nat) (hk : k ≤ n) (hn : n ≤ 10) (H : AH) (Q : AV → AH → Prop) (hT : (roundS n k).length ≤ 1000000) (h : Q (.int .i64 (roundS n k).length) H) : AC Try.prog 60 [.int .i64 n, .int .i64 k] H Q :=
  AC.quiet (belB_int _ _ _ _) (fun Q h => many_ac n k hk hn H Q hT h) Q h
end Go.Proofs.Ytpdcmdmhamnndaa
