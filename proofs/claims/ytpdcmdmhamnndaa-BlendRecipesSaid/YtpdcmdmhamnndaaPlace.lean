/- The place of a blend in its round, and the blend at a place. -/
import Derived.Test.YtpdcmdmhamnndaaIter
namespace Go.Proofs.Ytpdcmdmhamnndaa
open Go Go.Proofs.Ytpdcmdmhamnndaa.AX

def idxS (b : List Int) : List (List Int) → Nat
  | [] => 0
  | l :: rest => if l = b then 0 else idxS b rest + 1
theorem idxS_le (b : List Int) : ∀ l : List (List Int), idxS b l ≤ l.length
  | [] => Nat.le_refl _
  | x :: l => by simp only [idxS]; split <;> have := idxS_le b l <;> simp <;> omega
set_option maxRecDepth 100000 in
theorem place_ac (n : Nat) (v : AV) (b : List Int) (hb : b.length ≤ n) (hn : n ≤ 10) (H : AH) (Q : AV → AH → Prop) (hv : Ls H v b) (hT : (roundS n b.length).length ≤ 1000000) (h : ∀ H', Ext H H' → Q (.int .i64 (idxS b (roundS n b.length))) H') : AC Try.prog 63 [.int .i64 n, v] H Q := by
  obtain ⟨r0, off0, ver0, sz0, full0, hv0, -⟩ := id hv
  refine L_body 18 Try.func63 rfl rfl ?_
  refine L_reg [0, 3] (fun K hK => ?_)
  simp [hv0, AV.isU, acells]
  apply hK; clear hK K
  have z0 : (H ++ [AObj.row [AV.slice r0 off0 b.length ver0 sz0 full0] 0 0 false])[H.length]? = some (.row [.slice r0 off0 b.length ver0 sz0 full0] 0 0 false) := by simp
  have zl : (H ++ [AObj.row [AV.slice r0 off0 b.length ver0 sz0 full0] 0 0 false]).length = H.length + 1 := by simp
  have zE : Ext H (H ++ [AObj.row [AV.slice r0 off0 b.length ver0 sz0 full0] 0 0 false]) := .push _ _
  generalize H ++ [AObj.row [AV.slice r0 off0 b.length ver0 sz0 full0] 0 0 false] = Ha at z0 zl zE ⊢
  generalize hp : H.length = p at z0 zl ⊢
  refine L_reg [0, 3, 5] (fun K hK => ?_)
  simp [alloc_z zt3, st_zero]
  apply hK; clear hK K
  have e0 : ld (Ha ++ [.row [.int .i64 0] 0 0 false]) p 0 0 = some (.slice r0 off0 b.length ver0 sz0 full0) := by
    rw [ld_row (c := [AV.slice r0 off0 b.length ver0 sz0 full0]) (v := 0) (s := 0) (ro := false) (by rw [List.getElem?_append_left (by omega)]; exact z0)]; rfl
  refine L_reg [3, 5, 10] (fun K hK => ?_)
  simp [okFn_low, e0]
  refine round_ac n b.length _ _ ?_
  simp
  apply hK; clear hK K
  obtain ⟨a1, a2, a3, a4, a5⟩ := rows3 Ha (.row [.int .i64 0] 0 0 false) (.row [.int .i64 n] 0 0 false) (.row [.int .i64 b.length] 0 0 false)
  simp only [List.append_assoc, List.cons_append, List.nil_append] at a1 a2 a3 a4 a5
  have a0 := a5.row z0
  have a5 := zE.trans a5
  generalize Ha ++ [AObj.row [.int .i64 0] 0 0 false, .row [.int .i64 n] 0 0 false, .row [.int .i64 b.length] 0 0 false] = H1 at a0 a1 a2 a3 a4 a5 ⊢
  rw [zl] at a1 a2 a3 a4
  simp only [zl]
  refine L_block (L_range [3, 5] rfl (okFn_low (by omega) (by omega)) ?_)
  generalize hL : (⟨18, _, _, _, _⟩ : LR) = L
  have hnt : L.nt = 18 := by rw [← hL]
  have hps : L.ps = #[11] := by rw [← hL]
  have hass := congrArg LR.assign hL.symm
  have he : L.e = [(3, .ptr p 0 0), (5, .ptr (p + 1) 0 0)] := by rw [← hL]; rfl
  have hbody := congrArg LR.body hL.symm
  clear hL
  generalize hF : roundS n b.length = F at h hT
  obtain ⟨T, hTT⟩ : ∃ T, T = F.length := ⟨_, rfl⟩
  have hr0 : (H1 ++ [AObj.loop .ready .normal L])[H1.length]? = some (.loop .ready .normal L) := by simp
  have hlen : (H1 ++ [AObj.loop .ready .normal L]).length = p + 5 := by simp [a4]
  have hin : ∀ j, j < H1.length → (H1 ++ [AObj.loop .ready .normal L])[j]? = H1[j]? := fun j hj => List.getElem?_append_left hj
  refine round1_ac n b.length hb hn H1.length (p + 3) (p + 2) 0 0 (fun rest H' => (∀ x ∈ rest, x.length = b.length) ∧ p + 5 ≤ H'.length ∧ (∃ m s, m + rest.length = T ∧ m + idxS b rest = idxS b F ∧ H'[p + 1]? = some (.row [.int .i64 ((m : Nat) : Int)] 0 s false)) ∧
      H'[p]? = some (.row [.slice r0 off0 b.length ver0 sz0 full0] 0 0 false) ∧ H'[H1.length]? = some (.loop .ready .normal L) ∧ Ext H H')
    (fun H' => p + 5 ≤ H'.length ∧ (∃ s, H'[p + 1]? = some (.row [.int .i64 ((idxS b F : Nat) : Int)] 0 s false)) ∧ H'[H1.length]? = some (.loop .done (.exit 0) L) ∧ Ext H H') _ _ (by rw [hin _ (by omega)]; exact a3) (by rw [hin _ (by omega)]; exact a2) (by simp) ?_ ?_ ?_ ?_
  · rw [hlen]
    refine ⟨fun rest H2 H3 hsame ⟨gm, g0, ⟨m, s, g1, g1', g2⟩, g3, g4, g5⟩ => ?_, fun l rest H2 st ⟨gm, g0, ⟨m, s, g1, g1', g2⟩, g3, g4, g5⟩ hrow => ?_⟩
    · have e2 : H3[p + 1]? = _ := (hsame.2 _ (by omega) (by omega)).trans g2
      have e3 : H3[p]? = _ := (hsame.2 _ (by omega) (by omega)).trans g3
      have e4 : H3[H1.length]? = _ := (hsame.2 _ (by omega) (by omega)).trans g4
      have hl3 : H1.length < H3.length := (List.getElem?_eq_some_iff.1 e4).1
      exact ⟨gm, by omega, ⟨m, s, g1, g1', e2⟩, e3, e4, below_ext (w := p) g5 (by omega) (by omega) (fun j hj => hsame.2 j (by omega) (by omega))⟩
    · have hwl := lt_of_row hrow
      simp only [List.length_cons] at g1
      refine AYld_mkA g4 (by rw [hps]; rfl) (by rw [hps, hnt]; simp) ?_
      rw [hnt, hps, he, hass]
      refine L_reg [3, 5, 6] (fun K hK => ?_)
      simp [psEnv]
      apply hK; clear hK K
      refine ⟨rfl, .normal, L, g4, ?_⟩
      rw [hbody]
      generalize hH2b : H2.set H1.length (.loop .busy .normal L) = H2b
      have bp : H2b[p]? = some (.row [.slice r0 off0 b.length ver0 sz0 full0] 0 0 false) := by rw [← hH2b, set_ne (by omega)]; exact g3
      have b2 : H2b[p + 1]? = some (.row [.int .i64 ((m : Nat) : Int)] 0 s false) := by rw [← hH2b, set_ne (by omega)]; exact g2
      have bw : H2b[p + 5]? = some (.row (l.map (.int .i64)) 0 st false) := by rw [← hH2b, set_ne (by omega)]; exact hrow
      have br : H2b[H1.length]? = some (.loop .busy .normal L) := by rw [← hH2b, List.getElem?_set_self (by omega)]
      have bE : Ext H H2b := by rw [← hH2b]; exact g5.set _ (by omega)
      have bl : H2b.length = H2.length := by rw [← hH2b]; simp
      have ep : ld H2b p 0 0 = some (.slice r0 off0 b.length ver0 sz0 full0) := by rw [ld_row bp]; rfl
      have e2 : ld H2b (p + 1) 0 0 = some (.int .i64 ((m : Nat) : Int)) := by rw [ld_row b2]; rfl
      have hlb : l.length = b.length := gm l (by simp)
      have hLw : Ls H2b (.slice (some (p + 5)) 0 b.length 0 1 false) l := by
        have := Ls.row bw false
        rwa [hlb] at this
      refine L_block ?_
      refine L_reg [5, 14] (fun K hK => ?_)
      simp [okFn_low, ep]
      refine Equal_ac _ _ l b _ _ (by omega) hLw (hv0 ▸ hv.ext bE) ?_
      simp
      apply hK; clear hK K
      by_cases hlb2 : l = b
      · simp only [idxS, if_pos hlb2] at g1'
        refine L_true (by simp [hlb2]) (L_exit ?_)
        refine ⟨.busy, .normal, L, br, false, rfl, ?_⟩
        refine ⟨by simp; omega, ⟨s, ?_⟩, by rw [List.getElem?_set_self (by omega)]; rfl, bE.set _ (by omega)⟩
        rw [set_ne (by omega), ← g1']; exact b2
      · simp only [idxS, if_neg hlb2] at g1'
        refine L_false (by simp [hlb2]) ?_
        have hst := store_row (P := Try.prog) (u := 3) (p := 0) sc3 (x := .int .i64 ((m + 1 : Nat) : Int)) (y := .int .i64 ((m : Nat) : Int)) rfl b2 rfl
        rw [Int.natCast_add, Int.natCast_one] at hst
        refine L_reg [] (fun K hK => ?_)
        simp [e2, wrap_i64 (a := (m : Int) + 1) (by omega), hst]
        apply hK; clear hK K
        refine ⟨.busy, .normal, L, by rw [set_ne (by omega)]; exact br, true, rfl, ?_⟩
        simp only [if_true]
        refine ⟨⟨fun x hx => gm x (by simp [hx]), by simp; omega, ⟨m + 1, 0, by omega, by omega, ?_⟩, ?_, ?_, ?_⟩, ⟨by simp; omega, fun j N0 r0 s0 h1 h2 => ?_⟩, st, ?_⟩
        · rw [set_ne (by omega), get_set b2]; rfl
        · rw [set_ne (by omega), set_ne (by omega)]; exact bp
        · rw [List.getElem?_set_self (by simp; omega)]
        · exact (bE.set _ (by omega)).set _ (by omega)
        · rw [set_ne (by omega), set_ne (by omega), ← hH2b, set_ne (by omega)]; exact h2
        · rw [set_ne (by omega), set_ne (by omega)]; exact bw
  · refine ⟨fun x hx => roundS_len n b.length x hx, by omega, ⟨0, 0, by rw [hF]; omega, by rw [hF]; omega, ?_⟩, ?_, hr0, a5.trans (.push _ _)⟩
    · rw [hin _ (by omega)]; exact a1
    · rw [hin _ (by omega)]; exact a0
  · rintro H' ⟨-, g0, ⟨m, s, g1, g1', g2⟩, g3, g4, g5⟩
    simp only [idxS, Nat.add_zero] at g1'
    refine ⟨.ready, .normal, L, g4, by simp, ?_⟩
    have b2 : (H'.set H1.length (.loop .exhausted .normal L))[p + 1]? = some (.row [.int .i64 ((idxS b F : Nat) : Int)] 0 s false) := by rw [set_ne (by omega), ← g1']; exact g2
    have e2 : ld (H'.set H1.length (.loop .exhausted .normal L)) (p + 1) 0 0 = some (.int .i64 ((idxS b F : Nat) : Int)) := by rw [ld_row b2]; rfl
    show AWL _ _ _ _ _ _
    refine L_reg [4] (fun K hK => ?_)
    simp [e2]
    apply hK; clear hK K
    exact L_ret ⟨.inr rfl, _, rfl, h _ (g5.set _ (by omega))⟩
  · rintro H' ⟨g0, ⟨s, g2⟩, g4, g5⟩
    refine ⟨.done, .exit 0, L, g4, by simp, ?_⟩
    have b2 : (H'.set H1.length (.loop .exhausted (.exit 0) L))[p + 1]? = some (.row [.int .i64 ((idxS b F : Nat) : Int)] 0 s false) := by rw [set_ne (by omega)]; exact g2
    have e2 : ld (H'.set H1.length (.loop .exhausted (.exit 0) L)) (p + 1) 0 0 = some (.int .i64 ((idxS b F : Nat) : Int)) := by rw [ld_row b2]; rfl
    show AWL _ _ _ _ _ _
    refine L_reg [4] (fun K hK => ?_)
    simp [e2]
    apply hK; clear hK K
    exact L_ret ⟨.inr rfl, _, rfl, h _ (g5.set _ (by omega))⟩
theorem place_q (n : Nat) (v : AV) (b : List Int) (hb : b.length ≤ n) (hn : n ≤ 10) (H : AH) (hv : Ls H v b) (hT : (roundS n b.length).length ≤ 1000000) (Q : AV → AH → Prop) (h : Q (.int .i64 (idxS b (roundS n b.length))) H) : AC Try.prog 63 [.int .i64 n, v] H Q :=
  AC.quiet (belB_int _ _ _ _) (fun Q h => place_ac n v b hb hn H Q hv hT h) Q h
end Go.Proofs.Ytpdcmdmhamnndaa
