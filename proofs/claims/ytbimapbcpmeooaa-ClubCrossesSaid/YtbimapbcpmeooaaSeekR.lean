/- The first plan of counts, and whether there is just one. -/
import Derived.Test.YtbimapbcpmeooaaSeekQ
namespace Go.Proofs.Ytbimapbcpmeooaa.Cl
open Go Go.Proofs.Ytbimapbcpmeooaa Go.Proofs.Ytbimapbcpmeooaa.AX
set_option maxRecDepth 100000
set_option linter.unusedVariables false
theorem st_one {u : TypeId} (hsc : scal Try.prog u = true) {H : AH} {r s : Nat} {x y : AV} (hr : H[r]? = some (.row [y] 0 s false)) (hx : x.one = true) (hy : known (some y) = some y) : storeV Try.prog u H (.ptr r 0 0) x = some (none, H.set r (.row [x] 0 0 false)) := by
  rw [store_row hsc hx hr (p := 0) (y := y) hy]
  simp
theorem res2 {P : Program} {fn : Func} {e : Env} {H : AH} {b1 b2 : Tmp} {t1 t2 : TypeId} {v1 v2 : AV} (hr : fn.results = #[.cell b1 t1, .cell b2 t2]) (h1 : loadV P t1 H (eget e b1) = some v1) (h2 : loadV P t2 H (eget e b2) = some v2) : aResults P fn e H = some (.tuple [v1, v2]) := by
  have g1 : aRes1 P e H (.cell b1 t1) = some v1 := h1
  have g2 : aRes1 P e H (.cell b2 t2) = some v2 := h2
  simp [aResults, hr, aResList, g1, g2]
/-- What Only answers of counts that pass. -/
def onlyA (c : List Nat) : AV := if cnt c.length c = 0 then .tuple [.bool false, .int .i64 12] else .tuple [.bool (decide (cnt c.length c = 1)), .int .i64 0]
theorem rows4 (H : AH) (a b c d : AObj) : (H ++ [a, b, c, d])[H.length]? = some a ∧ (H ++ [a, b, c, d])[H.length + 1]? = some b ∧ (H ++ [a, b, c, d])[H.length + 2]? = some c ∧ (H ++ [a, b, c, d])[H.length + 3]? = some d ∧ (H ++ [a, b, c, d]).length = H.length + 4 ∧ Ext H (H ++ [a, b, c, d]) := ⟨by simp, by simp, by simp, by simp, by simp, .push _ _⟩
set_option maxHeartbeats 2000000 in
theorem Only_ac (l : List Int) (v : AV) (hlen : l.length ≤ 1000000) (H : AH) (hv : Ls H v l) (Q : AV → AH → Prop) (h1 : chkC l ≠ 0 → ∀ H', Ext H H' → Q (.tuple [.bool false, .int .i64 (chkC l)]) H') (h2 : ∀ c, l = il c → Okc c → ∀ H', Ext H H' → Q (onlyA c) H') : AC Try.prog 28 [v] H Q := by
  refine L_body 20 Try.func28 rfl rfl ?_
  refine L_reg [0, 2, 3] (fun K hK => ?_)
  simp [alloc_z zt4]
  apply hK; clear hK K
  change AWL _ _ _ _ (H ++ [AObj.row [.bool false] 0 0 false, .row [.int .i64 0] 0 0 false]) _
  have hEA : Ext H (H ++ [AObj.row [.bool false] 0 0 false, .row [.int .i64 0] 0 0 false]) := .push _ _
  have hrz : (H ++ [AObj.row [.bool false] 0 0 false, .row [.int .i64 0] 0 0 false])[H.length]? = some (.row [.bool false] 0 0 false) := by simp
  have hry : (H ++ [AObj.row [.bool false] 0 0 false, .row [.int .i64 0] 0 0 false])[H.length + 1]? = some (.row [.int .i64 0] 0 0 false) := by simp
  have hlA : (H ++ [AObj.row [.bool false] 0 0 false, .row [.int .i64 0] 0 0 false]).length = H.length + 2 := by simp
  generalize H ++ [AObj.row [.bool false] 0 0 false, .row [.int .i64 0] 0 0 false] = HA at *
  have hv0 := hv.ext hEA
  refine L_reg [0, 2, 3, 4] (fun K hK => ?_)
  simp [okFn_low]
  refine Check_q l v hlen _ hv0 _ ?_
  simp
  apply hK; clear hK K
  refine L_reg [0, 2, 3, 4, 9] (fun K hK => ?_)
  simp
  apply hK; clear hK K
  refine L_dec (chkC l ≠ 0) (by simp [bne0]) (fun c1 => ?_) (fun c1 => ?_)
  · have hst1 := st_one (u := 4) sc4 (x := .bool false) (y := .bool false) hrz rfl rfl
    have hry2 : (HA.set H.length (.row [.bool false] 0 0 false))[H.length + 1]? = some (.row [.int .i64 0] 0 0 false) := by rw [set_ne (by omega)]; exact hry
    have hst2 := st_one (u := 24) sc24 (x := .int .i64 (chkC l)) (y := .int .i64 0) hry2 rfl rfl
    have k1 := get_set (o' := .row [.int .i64 (chkC l)] 0 0 false) hry2
    have k2 : ((HA.set H.length (.row [.bool false] 0 0 false)).set (H.length + 1) (.row [.int .i64 (chkC l)] 0 0 false))[H.length]? = some (.row [.bool false] 0 0 false) := by rw [set_ne (by omega)]; exact get_set hrz
    have k3 : Ext H ((HA.set H.length (.row [.bool false] 0 0 false)).set (H.length + 1) (.row [.int .i64 (chkC l)] 0 0 false)) := (hEA.set _ (by omega)).set _ (by omega)
    generalize HA.set H.length (.row [.bool false] 0 0 false) = HB at *
    generalize HB.set (H.length + 1) (.row [.int .i64 (chkC l)] 0 0 false) = HC at *
    refine L_reg [2, 3] (fun K hK => ?_)
    simp [hst1, hst2]
    apply hK; clear hK K
    exact L_ret ⟨.inr rfl, _, res2 (v1 := .bool false) (v2 := .int .i64 (chkC l)) rfl (by rw [show eget _ 2 = AV.ptr H.length 0 0 from rfl, ld4, ld_row k2]; rfl) (by rw [show eget _ 3 = AV.ptr (H.length + 1) 0 0 from rfl, ld24, ld_row k1]; rfl), h1 c1 _ k3⟩
  obtain ⟨c, rfl, ho⟩ := chk_okc (Classical.not_not.1 c1)
  have h2 := h2 c rfl ho
  have hT8 := cnt_le ho.le
  unfold onlyA at h2
  rw [← sols_len c.length 0 c] at h2 hT8
  refine L_reg [0, 2, 3, 5] (fun K hK => ?_)
  simp [alloc_z zt3, st_zero]
  apply hK; clear hK K
  refine L_reg [2, 3, 5, 12] (fun K hK => ?_)
  simp [okFn_low]
  refine plans_ac v (ls_one hv) _ _ ?_
  simp
  apply hK; clear hK K
  have a0 : (HA ++ [AObj.row [.int .i64 0] 0 0 false, .row [v] 0 0 false])[H.length]? = some (.row [.bool false] 0 0 false) := by rw [List.getElem?_append_left (by omega)]; exact hrz
  have a1 : (HA ++ [AObj.row [.int .i64 0] 0 0 false, .row [v] 0 0 false])[H.length + 1]? = some (.row [.int .i64 0] 0 0 false) := by rw [List.getElem?_append_left (by omega)]; exact hry
  have a2 : (HA ++ [AObj.row [.int .i64 0] 0 0 false, .row [v] 0 0 false])[H.length + 2]? = some (.row [.int .i64 0] 0 0 false) := by rw [← hlA]; simp
  have a3 : (HA ++ [AObj.row [.int .i64 0] 0 0 false, .row [v] 0 0 false])[H.length + 3]? = some (.row [v] 0 0 false) := by rw [show H.length + 3 = HA.length + 1 by omega]; simp
  have a4 : (HA ++ [AObj.row [.int .i64 0] 0 0 false, .row [v] 0 0 false]).length = H.length + 4 := by simp [hlA]
  have a5 : Ext H (HA ++ [AObj.row [.int .i64 0] 0 0 false, .row [v] 0 0 false]) := hEA.trans (.push _ _)
  rw [hlA]
  generalize HA ++ [AObj.row [.int .i64 0] 0 0 false, .row [v] 0 0 false] = H1 at a0 a1 a2 a3 a4 a5 ⊢
  have hv1 := hv.ext a5
  clear hrz hry
  generalize hp : H.length = p at a0 a1 a2 a3 a4 hlA ⊢
  refine L_block (L_range [2, 3, 5] rfl (okFn_low (by omega) (by omega)) ?_)
  generalize hL : (⟨20, _, _, _, _⟩ : LR) = L
  have hnt : L.nt = 20 := by rw [← hL]
  have hps : L.ps = #[13] := by rw [← hL]
  have hass : L.assign = .skip := by rw [← hL]
  have he : L.e = [(2, .ptr p 0 0), (3, .ptr (p + 1) 0 0), (5, .ptr (p + 2) 0 0)] := by rw [← hL]; rfl
  have hbody := congrArg LR.body hL.symm
  clear hL
  obtain ⟨T, hTT⟩ : ∃ T, T = (sols c.length 0 c).length := ⟨_, rfl⟩
  have hr0 : (H1 ++ [AObj.loop .ready .normal L])[H1.length]? = some (.loop .ready .normal L) := by simp
  have hlen : (H1 ++ [AObj.loop .ready .normal L]).length = p + 5 := by simp [a4]
  have hin : ∀ j, j < H1.length → (H1 ++ [AObj.loop .ready .normal L])[j]? = H1[j]? := fun j hj => List.getElem?_append_left hj
  refine plans1_ac (r := H1.length) (M := p + 5) (J := fun rest H' => p + 5 ≤ H'.length ∧ rest.length ≤ T ∧ T - rest.length ≤ 1 ∧ (∃ s, H'[p + 2]? = some (.row [.int .i64 ((T - rest.length : Nat) : Int)] 0 s false)) ∧ (∃ s, H'[p]? = some (.row [.bool false] 0 s false)) ∧ (∃ s, H'[p + 1]? = some (.row [.int .i64 0] 0 s false)) ∧ H'[H1.length]? = some (.loop .ready .normal L) ∧ Ext H H')
    (Z := fun _ H' => 2 ≤ T ∧ p + 5 ≤ H'.length ∧ (∃ s, H'[p]? = some (.row [.bool false] 0 s false)) ∧ (∃ s, H'[p + 1]? = some (.row [.int .i64 0] 0 s false)) ∧ H'[H1.length]? = some (.loop .done .ret L) ∧ Ext H H') ?_ c ho.pos ho.le ho.b (p + 3) 0 v _ _ hlen (by rw [hin _ (by omega)]; exact a3) (hv1.ext (.push _ _)) ?_ ?_
  · refine ⟨fun rest H2 H3 hM hK ⟨g0, g1, gt, ⟨s, g2⟩, ⟨s5, g5⟩, ⟨s6, g6⟩, g3, g4⟩ => ?_, fun _ H2 H3 hM hk hK ⟨gt, g0, ⟨s5, g5⟩, ⟨s6, g6⟩, g3, g4⟩ => ?_, fun X rest H2 u hM ⟨g0, g1, gt, ⟨s, g2⟩, ⟨s5, g5⟩, ⟨s6, g6⟩, g3, g4⟩ hu => ?_⟩
    · have hk := hK.1
      exact ⟨by omega, g1, gt, ⟨s, (hK.2 _ (by omega)).trans g2⟩, ⟨s5, (hK.2 _ (by omega)).trans g5⟩, ⟨s6, (hK.2 _ (by omega)).trans g6⟩, (hK.2 _ (by omega)).trans g3, ⟨Nat.le_trans g4.1 hK.1, fun j hj => by rw [hK.2 j (by omega), g4.2 j hj]⟩⟩
    · exact ⟨gt, by omega, ⟨s5, (hK _ (by omega) (.inl (by omega))).trans g5⟩, ⟨s6, (hK _ (by omega) (.inl (by omega))).trans g6⟩, (hK _ (by omega) (.inl (by omega))).trans g3, ⟨Nat.le_trans g4.1 hk, fun j hj => by rw [hK j (by omega) (.inl (by omega)), g4.2 j hj]⟩⟩
    · have hg1 : rest.length + 1 ≤ T := by simpa using g1
      have gt : T - (rest.length + 1) ≤ 1 := by simpa using gt
      refine AYld_mk g3 (by rw [hps]; rfl) (by rw [hps, hnt]; simp) hass ?_
      rw [hnt, hps, he, hbody]
      have b2 : (H2.set H1.length (.loop .busy .normal L))[p + 2]? = some (.row [.int .i64 ((T - (rest.length + 1) : Nat) : Int)] 0 s false) := by rw [set_ne (by omega)]; exact g2
      have e2 : ld (H2.set H1.length (.loop .busy .normal L)) (p + 2) 0 0 = some (.int .i64 ((T - (rest.length + 1) : Nat) : Int)) := by rw [ld_row b2]; rfl
      have hst := store_row (P := Try.prog) (u := 3) (p := 0) sc3 (x := .int .i64 ((T - rest.length : Nat) : Int)) (y := .int .i64 ((T - (rest.length + 1) : Nat) : Int)) rfl b2 rfl
      have hadd : ((T - (rest.length + 1) : Nat) : Int) + 1 = ((T - rest.length : Nat) : Int) := by omega
      have b3 := get_set (o' := .row [.int .i64 ((T - rest.length : Nat) : Int)] 0 0 false) b2
      refine L_block ?_
      refine L_reg [2, 3, 5] (fun K hK => ?_)
      simp [psEnv, e2, hadd, wrap_i64 (a := ((T - rest.length : Nat) : Int)) (by omega), hst]
      apply hK; clear hK K
      have b5 : ((H2.set H1.length (.loop .busy .normal L)).set (p + 2) (.row [.int .i64 ((T - rest.length : Nat) : Int)] 0 0 false))[p]? = some (.row [.bool false] 0 s5 false) := by rw [set_ne (by omega), set_ne (by omega)]; exact g5
      have b6 : ((H2.set H1.length (.loop .busy .normal L)).set (p + 2) (.row [.int .i64 ((T - rest.length : Nat) : Int)] 0 0 false))[p + 1]? = some (.row [.int .i64 0] 0 s6 false) := by rw [set_ne (by omega), set_ne (by omega)]; exact g6
      have br : ((H2.set H1.length (.loop .busy .normal L)).set (p + 2) (.row [.int .i64 ((T - rest.length : Nat) : Int)] 0 0 false))[H1.length]? = some (.loop .busy .normal L) := by rw [set_ne (by omega), List.getElem?_set_self (by omega)]
      have bE : Ext H ((H2.set H1.length (.loop .busy .normal L)).set (p + 2) (.row [.int .i64 ((T - rest.length : Nat) : Int)] 0 0 false)) := (g4.set _ (by omega)).set _ (by omega)
      have bl : ((H2.set H1.length (.loop .busy .normal L)).set (p + 2) (.row [.int .i64 ((T - rest.length : Nat) : Int)] 0 0 false)).length = H2.length := by simp
      have bo : ∀ j, p + 5 ≤ j → j < H2.length → ((H2.set H1.length (.loop .busy .normal L)).set (p + 2) (.row [.int .i64 ((T - rest.length : Nat) : Int)] 0 0 false))[j]? = H2[j]? := fun j h3 h4 => by rw [set_ne (by omega), set_ne (by omega)]
      generalize (H2.set H1.length (.loop .busy .normal L)).set (p + 2) (.row [AV.int .i64 ((T - rest.length : Nat) : Int)] 0 0 false) = H3 at *
      have e3 : ld H3 (p + 2) 0 0 = some (.int .i64 ((T - rest.length : Nat) : Int)) := by rw [ld_row b3]; rfl
      refine L_reg [2, 3, 17] (fun K hK => ?_)
      simp [e3]
      apply hK; clear hK K
      refine L_dec (2 ≤ T - rest.length) (by simp; omega) (fun c2 => ?_) (fun c2 => ?_)
      · have hst5 := st_one (u := 4) sc4 (x := .bool false) (y := .bool false) b5 rfl rfl
        have b6' : (H3.set p (.row [.bool false] 0 0 false))[p + 1]? = some (.row [.int .i64 0] 0 s6 false) := by rw [set_ne (by omega)]; exact b6
        have hst6 := store_row (P := Try.prog) (u := 24) (p := 0) sc24 (x := .int .i64 0) (y := .int .i64 0) rfl b6' rfl
        refine L_reg [2, 3] (fun K hK => ?_)
        simp [hst5, hst6]
        apply hK; clear hK K
        refine L_ret ⟨.busy, .normal, L, by rw [set_ne (by omega), set_ne (by omega)]; exact br, false, rfl, ?_⟩
        refine ⟨⟨by omega, by simp; omega, ⟨0, ?_⟩, ⟨0, ?_⟩, ?_, ?_⟩, by simp; omega, fun j h3 h4 => ?_⟩
        · rw [set_ne (by omega), set_ne (by omega), get_set b5]
        · rw [set_ne (by omega), get_set b6']
        · rw [List.getElem?_set_self (by simp; omega)]; rfl
        · exact ((bE.set _ (by omega)).set _ (by omega)).set _ (by omega)
        · rw [set_ne (by omega), set_ne (by omega), set_ne (by omega)]; exact bo j h3 h4
      · refine ⟨.busy, .normal, L, br, true, rfl, ?_⟩
        simp only [if_true]
        refine ⟨⟨by simp; omega, by omega, by omega, ⟨0, ?_⟩, ⟨s5, ?_⟩, ⟨s6, ?_⟩, ?_, ?_⟩, by simp; omega, fun j h3 h4 => ?_⟩
        · rw [set_ne (by omega)]; exact b3
        · rw [set_ne (by omega)]; exact b5
        · rw [set_ne (by omega)]; exact b6
        · rw [List.getElem?_set_self (by omega)]
        · exact bE.set _ (by omega)
        · rw [set_ne (by omega)]; exact bo j h3 h4
  · refine ⟨by omega, by omega, by omega, ⟨0, ?_⟩, ⟨0, ?_⟩, ⟨0, ?_⟩, hr0, a5.trans (.push _ _)⟩
    · rw [hin _ (by omega), a2, ← hTT, Nat.sub_self]; rfl
    · rw [hin _ (by omega)]; exact a0
    · rw [hin _ (by omega)]; exact a1
  · intro t H' ht
    cases t with
    | false =>
      obtain ⟨_, -, gt, g0, ⟨s5, g5⟩, ⟨s6, g6⟩, g3, g4⟩ := ht
      refine ⟨.done, .ret, L, g3, by simp, ?_⟩
      have b5 : (H'.set H1.length (.loop .exhausted .ret L))[p]? = some (.row [.bool false] 0 s5 false) := by rw [set_ne (by omega)]; exact g5
      have b6 : (H'.set H1.length (.loop .exhausted .ret L))[p + 1]? = some (.row [.int .i64 0] 0 s6 false) := by rw [set_ne (by omega)]; exact g6
      refine ⟨.inr rfl, .tuple [.bool false, .int .i64 0], res2 rfl (by rw [show eget _ 2 = AV.ptr p 0 0 from rfl, ld4, ld_row b5]; rfl) (by rw [show eget _ 3 = AV.ptr (p + 1) 0 0 from rfl, ld24, ld_row b6]; rfl), ?_⟩
      have h3 := h2 _ (g4.set (.loop .exhausted .ret L) (show H.length ≤ H1.length by omega))
      rw [if_neg (by omega), decide_eq_false (by omega)] at h3
      exact h3
    | true =>
    obtain ⟨g0, -, gt, ⟨s, g2⟩, ⟨s5, g5⟩, ⟨s6, g6⟩, g3, g4⟩ := ht
    have gt : T ≤ 1 := by simpa using gt
    refine ⟨.ready, .normal, L, g3, by simp, ?_⟩
    have b2 : (H'.set H1.length (.loop .exhausted .normal L))[p + 2]? = some (.row [.int .i64 (T : Int)] 0 s false) := by rw [set_ne (by omega)]; exact g2
    have b5 : (H'.set H1.length (.loop .exhausted .normal L))[p]? = some (.row [.bool false] 0 s5 false) := by rw [set_ne (by omega)]; exact g5
    have b6 : (H'.set H1.length (.loop .exhausted .normal L))[p + 1]? = some (.row [.int .i64 0] 0 s6 false) := by rw [set_ne (by omega)]; exact g6
    have bE : Ext H (H'.set H1.length (.loop .exhausted .normal L)) := g4.set _ (by omega)
    have e2 : ld (H'.set H1.length (.loop .exhausted .normal L)) (p + 2) 0 0 = some (.int .i64 (T : Int)) := by rw [ld_row b2]; rfl
    show AWL _ _ _ _ _ _
    generalize H'.set H1.length (.loop .exhausted .normal L) = H4 at *
    rw [← hTT] at h2
    refine L_reg [2, 3, 19] (fun K hK => ?_)
    simp [e2]
    apply hK; clear hK K
    refine L_dec (T = 0) (by simp [beq0]) (fun c2 => ?_) (fun c2 => ?_)
    · have hst5 := st_one (u := 4) sc4 (x := .bool false) (y := .bool false) b5 rfl rfl
      have b6' : (H4.set p (.row [.bool false] 0 0 false))[p + 1]? = some (.row [.int .i64 0] 0 s6 false) := by rw [set_ne (by omega)]; exact b6
      have hst6 := store_row (P := Try.prog) (u := 24) (p := 0) sc24 (x := .int .i64 12) (y := .int .i64 0) rfl b6' rfl
      refine L_reg [2, 3] (fun K hK => ?_)
      simp [hst5, hst6]
      apply hK; clear hK K
      have k1 := get_set (o' := .row [.int .i64 12] 0 0 false) b6'
      have k2 : ((H4.set p (.row [.bool false] 0 0 false)).set (p + 1) (.row [.int .i64 12] 0 0 false))[p]? = some (.row [.bool false] 0 0 false) := by rw [set_ne (by omega)]; exact get_set b5
      have h3 := h2 _ ((bE.set (.row [.bool false] 0 0 false) (show H.length ≤ p by omega)).set (.row [.int .i64 12] 0 0 false) (show H.length ≤ p + 1 by omega))
      rw [if_pos c2] at h3
      exact L_ret ⟨.inr rfl, _, res2 (v1 := .bool false) (v2 := .int .i64 12) rfl (by rw [show eget _ 2 = AV.ptr p 0 0 from rfl, ld4, ld_row k2]; rfl) (by rw [show eget _ 3 = AV.ptr (p + 1) 0 0 from rfl, ld24, ld_row k1]; rfl), h3⟩
    · have hst5 := st_one (u := 4) sc4 (x := .bool true) (y := .bool false) b5 rfl rfl
      have b6' : (H4.set p (.row [.bool true] 0 0 false))[p + 1]? = some (.row [.int .i64 0] 0 s6 false) := by rw [set_ne (by omega)]; exact b6
      have hst6 := store_row (P := Try.prog) (u := 24) (p := 0) sc24 (x := .int .i64 0) (y := .int .i64 0) rfl b6' rfl
      refine L_reg [2, 3] (fun K hK => ?_)
      simp [hst5, hst6]
      apply hK; clear hK K
      have k1 := get_set (o' := .row [.int .i64 0] 0 0 false) b6'
      have k2 : ((H4.set p (.row [.bool true] 0 0 false)).set (p + 1) (.row [.int .i64 0] 0 0 false))[p]? = some (.row [.bool true] 0 0 false) := by rw [set_ne (by omega)]; exact get_set b5
      have h3 := h2 _ ((bE.set (.row [.bool true] 0 0 false) (show H.length ≤ p by omega)).set (.row [.int .i64 0] 0 0 false) (show H.length ≤ p + 1 by omega))
      rw [if_neg c2, decide_eq_true (by omega)] at h3
      exact L_ret ⟨.inr rfl, _, res2 (v1 := .bool true) (v2 := .int .i64 0) rfl (by rw [show eget _ 2 = AV.ptr p 0 0 from rfl, ld4, ld_row k2]; rfl) (by rw [show eget _ 3 = AV.ptr (p + 1) 0 0 from rfl, ld24, ld_row k1]; rfl), h3⟩
end Go.Proofs.Ytbimapbcpmeooaa.Cl
