/- All plans of counts are counted. -/
import Derived.Test.YtbimapbcpmeooaaSeekP
namespace Go.Proofs.Ytbimapbcpmeooaa.Cl
open Go Go.Proofs.Ytbimapbcpmeooaa Go.Proofs.Ytbimapbcpmeooaa.AX
set_option maxRecDepth 100000
set_option linter.unusedVariables false
theorem built118 (q n lv r : Nat) : aBuilt Try.prog 118 [(0, .slice (some q) 0 n lv 1 false), (2, .yld r)] = some [.slice (some q) 0 n lv 1 false, .slice none 0 0 0 1 false, .yld r] := by kernel_rfl
theorem plans_ac (v : AV) (hv : v.one = true) (H : AH) (Q : AV → AH → Prop) (h : Q (.func (.func 88) [] [.ptr H.length 0 0]) (H ++ [.row [v] 0 0 false])) : AC Try.prog 67 [v] H Q := by
  have h1 : v.isU = false := by cases v <;> simp_all [AV.one, AV.isU]
  have h2 : acells v = [v] := by cases v <;> simp_all [AV.one, acells]
  refine L_body 4 Try.func67 rfl rfl ?_
  refine L_reg [1] (fun K hK => ?_)
  simp [h1, h2]
  apply hK; clear hK K
  refine L_reg [2] (fun K hK => ?_)
  simp
  apply hK; clear hK K
  exact L_ret ⟨.inr rfl, _, rfl, h⟩
theorem plans1_ac {r M : Nat} {J : List (List Tb) → AH → Prop} {Z : Nat → AH → Prop} (hF : Fed r M J Z) (c : List Nat) (h1 : 1 ≤ c.length) (h8 : c.length ≤ 8) (hb : ∀ x ∈ c, x ≤ 8) (pl s0 : Nat) (v : AV) (H : AH) (Q : AV → AH → Prop) (hM : H.length = M)
    (hpl : H[pl]? = some (.row [v] 0 s0 false)) (hv : Ls H v (il c)) (hJ : J (sols c.length 0 c) H) (h : ∀ (t : Bool) H', (if t = true then J [] H' else ∃ l, M ≤ l ∧ Z l H') → Q (.tuple []) H') : AC Try.prog 88 [.yld r, .ptr pl 0 0] H Q := by
  have e0 : ld H pl 0 0 = some v := by rw [ld_row hpl]; exact known_one (ls_one hv)
  refine L_body 9 Try.func88 rfl rfl ?_
  refine L_reg [3] (fun K hK => ?_)
  simp [okFn_low, e0]
  refine Clone_ac v (il c) _ _ (by rw [il_len]; omega) hv (fun u H1 hO hE => ?_)
  rcases hO with ⟨h0, -⟩ | ⟨q, lv, st, g1, rfl, g3⟩
  · have : c.length = 0 := by have := congrArg List.length h0; simpa [il] using this
    omega
  rw [List.length_map, il_len] at *
  have hrz : (H1 ++ [AObj.row [.slice none 0 0 0 1 false, .slice none 0 0 0 1 false, .nilfunc] 0 0 false])[H1.length]? = some (.row [.slice none 0 0 0 1 false, .slice none 0 0 0 1 false, .nilfunc] 0 0 false) := by simp
  have hst := store_agg ag118 (vs := [.slice (some q) 0 c.length lv 1 false, .slice none 0 0 0 1 false, .yld r]) hrz (by decide) rfl (by simp) rfl (by simp [AV.one])
  have hr2 := get_set (o' := .row [.slice (some q) 0 c.length lv 1 false, .slice none 0 0 0 1 false, .yld r] 0 0 false) hrz
  have hE2 : Ext H1 ((H1 ++ [AObj.row [.slice none 0 0 0 1 false, .slice none 0 0 0 1 false, .nilfunc] 0 0 false]).set H1.length (.row [.slice (some q) 0 c.length lv 1 false, .slice none 0 0 0 1 false, .yld r] 0 0 false)) := (Ext.push _ _).set _ (Nat.le_refl _)
  simp [built118, alloc_z zt118, hst]
  apply hK; clear hK K
  have hqr := hE2.row g3
  have hEE := hE.trans hE2
  have hle := hE.1
  have hq1 := (List.getElem?_eq_some_iff.1 g3).1
  simp only [List.set_append_right _ _ (Nat.le_refl H1.length), Nat.sub_self, List.set_cons_zero] at hr2 hqr hEE
  generalize H1 ++ [AObj.row [.slice (some q) 0 c.length lv 1 false, .slice none 0 0 0 1 false, .yld r] 0 0 false] = H2 at *
  have hS : Sst H1.length q M c.length lv r c [] H2 := ⟨rfl, by omega, by omega, by omega, st, 0, _, hr2, hqr, .inl ⟨rfl, rfl⟩⟩
  have hfr := from_ok (ps := H1.length) (q := q) (lv := lv) hF h8 c.length 0 (by omega) c [] rfl hb (by simp; omega)
  simp only [List.drop_zero, List.nil_append, List.map_id'] at hfr
  refine L_reg [] (fun K hK => ?_)
  simp [okFn_low]
  refine hfr [] H2 _ hS (by rw [List.append_nil]; exact hF.same _ _ _ (by omega) ⟨hEE.1, fun j hj => hEE.2 j (by omega)⟩ hJ) (fun t H' hS' ht => ?_)
  simp
  apply hK; clear hK K
  refine ⟨.inl rfl, _, rfl, h t H' ?_⟩
  cases t with
  | true => exact ht
  | false =>
    obtain ⟨l, g1, g2, g3⟩ := ht
    exact ⟨l, by omega, g3⟩
/-- How many plans there can be. -/
def bnd : Nat → Nat
  | 0 => 1
  | k + 1 => 2 ^ k * bnd k
theorem row_le (a B : Nat) {f : List Nat → List (List Tb)} : ∀ (todo : List Nat) (b x : Nat) (done : List Nat), (∀ m : List Nat, m.length = done.length + todo.length → (f m).length ≤ B) → (row a f todo b x done).length ≤ 2 ^ todo.length * B
  | [], b, x, done, h => by
    unfold row
    split
    · simpa using h done (by simp)
    · simp
  | y :: todo, b, x, done, h => by
    unfold row
    have h1 := row_le a B todo (b + 1) (x - 1) (done ++ [y - 1]) fun m hm => h m (by simp at hm ⊢; omega)
    have h2 := row_le a B todo (b + 1) x (done ++ [y]) fun m hm => h m (by simp at hm ⊢; omega)
    have h3 : 2 ^ (y :: todo).length * B = 2 ^ todo.length * B + 2 ^ todo.length * B := by rw [List.length_cons, Nat.pow_succ, Nat.mul_right_comm]; omega
    rw [List.length_append, h3]
    split
    · rw [List.length_map]; omega
    · simp; omega
theorem sols_le : ∀ (k a : Nat) (l : List Nat), l.length = k → (sols k a l).length ≤ bnd k
  | 0, a, l, _ => by simp [sols, bnd]
  | k + 1, a, [], h => by simp at h
  | k + 1, a, x :: l, h => by
    have hl : l.length = k := by simpa using h
    rw [sols, bnd]
    have := row_le a (bnd k) (f := sols k (a + 1)) l (a + 1) x [] fun m hm => sols_le k (a + 1) m (by simp at hm; omega)
    rw [hl] at this
    exact this
theorem bnd8 : ∀ k, k ≤ 8 → bnd k ≤ 2 ^ 28 := by decide
theorem cnt_le {c : List Nat} (h : c.length ≤ 8) : cnt c.length c ≤ 2 ^ 28 := by
  rw [← sols_len c.length 0 c]
  exact Nat.le_trans (sols_le _ _ _ rfl) (bnd8 _ h)
theorem set_ne {H : AH} {i j : Nat} {o : AObj} (h : i ≠ j) : (H.set i o)[j]? = H[j]? := List.getElem?_set_ne h
/-- A row of its own behind H, and one with the counts. -/
theorem rows2 (H : AH) (a b : AObj) : (H ++ [a, b])[H.length]? = some a ∧ (H ++ [a, b])[H.length + 1]? = some b ∧ (H ++ [a, b]).length = H.length + 2 ∧ Ext H (H ++ [a, b]) := ⟨by simp, by simp, by simp, .push _ _⟩
theorem st_zero (H : AH) (v : Int) : storeV Try.prog 3 (H ++ [AObj.row [AV.int .i64 0] 0 0 false]) (.ptr H.length 0 0) (.int .i64 v) = some (none, H ++ [.row [.int .i64 v] 0 0 false]) := store_last sc3 (y := .int .i64 0) rfl rfl
set_option maxHeartbeats 1000000 in
theorem Count_ac (l : List Int) (v : AV) (hlen : l.length ≤ 1000000) (H : AH) (hv : Ls H v l) (Q : AV → AH → Prop) (h1 : chkC l ≠ 0 → Q (.tuple [.int .i64 0, .int .i64 (chkC l)]) H) (h2 : ∀ c, l = il c → Okc c → ∀ H', Ext H H' → Q (.tuple [.int .i64 (cnt c.length c : Nat), .int .i64 0]) H') : AC Try.prog 26 [v] H Q := by
  refine L_body 17 Try.func26 rfl rfl ?_
  refine L_reg [0] (fun K hK => ?_)
  simp
  apply hK; clear hK K
  refine L_reg [0, 4] (fun K hK => ?_)
  simp [okFn_low]
  refine Check_q l v hlen _ hv _ ?_
  simp
  apply hK; clear hK K
  refine L_reg [0, 4, 9] (fun K hK => ?_)
  simp
  apply hK; clear hK K
  refine L_dec (chkC l ≠ 0) (by simp [bne0]) (fun c1 => ?_) (fun c1 => ?_)
  · refine L_reg [2, 3] (fun K hK => ?_)
    simp
    apply hK; clear hK K
    exact L_ret ⟨.inr rfl, _, rfl, h1 c1⟩
  obtain ⟨c, rfl, ho⟩ := chk_okc (Classical.not_not.1 c1)
  have h2 := h2 c rfl ho
  have hT8 := cnt_le ho.le
  rw [← sols_len c.length 0 c] at h2 hT8
  refine L_reg [0, 5] (fun K hK => ?_)
  simp [alloc_z zt3, st_zero]
  apply hK; clear hK K
  have hvb := hv.ext (.push H [.row [.int .i64 0] 0 0 false])
  refine L_reg [5, 12] (fun K hK => ?_)
  simp [okFn_low]
  refine plans_ac v (ls_one hv) _ _ ?_
  simp
  apply hK; clear hK K
  obtain ⟨a1, a2, a4, a5⟩ := rows2 H (.row [.int .i64 0] 0 0 false) (.row [v] 0 0 false)
  generalize H ++ [AObj.row [.int .i64 0] 0 0 false, .row [v] 0 0 false] = H1 at a1 a2 a4 a5 ⊢
  have hv1 := hv.ext a5
  generalize hp : H.length = p at a1 a2 a4 ⊢
  refine L_block (L_range [5] rfl (okFn_low (by omega) (by omega)) ?_)
  generalize hL : (⟨17, _, _, _, _⟩ : LR) = L
  have hnt : L.nt = 17 := by rw [← hL]
  have hps : L.ps = #[13] := by rw [← hL]
  have hass : L.assign = .skip := by rw [← hL]
  have he : L.e = [(5, .ptr p 0 0)] := by rw [← hL]; rfl
  have hbody := congrArg LR.body hL.symm
  clear hL
  obtain ⟨T, hTT⟩ : ∃ T, T = (sols c.length 0 c).length := ⟨_, rfl⟩
  have hr0 : (H1 ++ [AObj.loop .ready .normal L])[H1.length]? = some (.loop .ready .normal L) := by simp
  have hlen : (H1 ++ [AObj.loop .ready .normal L]).length = p + 3 := by simp [a4]
  have hin : ∀ j, j < H1.length → (H1 ++ [AObj.loop .ready .normal L])[j]? = H1[j]? := fun j hj => List.getElem?_append_left hj
  refine plans1_ac (r := H1.length) (M := p + 3) (J := fun rest H' => p + 3 ≤ H'.length ∧ rest.length ≤ T ∧ (∃ s, H'[p]? = some (.row [.int .i64 ((T - rest.length : Nat) : Int)] 0 s false)) ∧ H'[H1.length]? = some (.loop .ready .normal L) ∧ Ext H H') (Z := fun _ _ => False) ?_ c ho.pos ho.le ho.b (p + 1) 0 v _ _ hlen (by rw [hin _ (by omega)]; exact a2) (hv1.ext (.push _ _)) ?_ ?_
  · refine ⟨fun rest H2 H3 hM hK ⟨g0, g1, ⟨s, g2⟩, g3, g4⟩ => ?_, fun _ _ _ _ _ _ h => h, fun X rest H2 u hM ⟨g0, g1, ⟨s, g2⟩, g3, g4⟩ hu => ?_⟩
    · have hk := hK.1
      refine ⟨by omega, g1, ⟨s, (hK.2 p (by omega)).trans g2⟩, (hK.2 _ (by omega)).trans g3, ⟨Nat.le_trans g4.1 hK.1, fun j hj => by rw [hK.2 j (by omega), g4.2 j hj]⟩⟩
    · have hg1 : rest.length + 1 ≤ T := by simpa using g1
      refine AYld_mk g3 (by rw [hps]; rfl) (by rw [hps, hnt]; simp) hass ?_
      rw [hnt, hps, he, hbody]
      have b2 : (H2.set H1.length (.loop .busy .normal L))[p]? = some (.row [.int .i64 ((T - (rest.length + 1) : Nat) : Int)] 0 s false) := by rw [set_ne (by omega)]; exact g2
      have e2 : ld (H2.set H1.length (.loop .busy .normal L)) p 0 0 = some (.int .i64 ((T - (rest.length + 1) : Nat) : Int)) := by rw [ld_row b2]; rfl
      have hst := store_row (P := Try.prog) (u := 3) (p := 0) sc3 (x := .int .i64 ((T - rest.length : Nat) : Int)) (y := .int .i64 ((T - (rest.length + 1) : Nat) : Int)) rfl b2 rfl
      have hadd : ((T - (rest.length + 1) : Nat) : Int) + 1 = ((T - rest.length : Nat) : Int) := by omega
      refine L_block ?_
      refine L_reg [] (fun K hK => ?_)
      simp [psEnv, e2, hadd, wrap_i64 (a := ((T - rest.length : Nat) : Int)) (by omega), hst]
      apply hK; clear hK K
      refine ⟨.busy, .normal, L, by rw [set_ne (by omega), List.getElem?_set_self (by omega)], true, rfl, ?_⟩
      simp only [if_true]
      refine ⟨⟨by simp; omega, by omega, ⟨0, ?_⟩, ?_, ?_⟩, by simp, fun j h3 h4 => ?_⟩
      · rw [set_ne (by omega), get_set b2]
      · rw [List.getElem?_set_self (by simp; omega)]
      · exact ((g4.set _ (by omega)).set _ (by omega)).set _ (by omega)
      · rw [set_ne (by omega), set_ne (by omega), set_ne (by omega)]
  · refine ⟨by omega, by omega, ⟨0, ?_⟩, hr0, a5.trans (.push _ _)⟩
    rw [hin _ (by omega), a1, ← hTT, Nat.sub_self]; rfl
  · intro t H' ht
    cases t with
    | false => exact ht.elim fun _ h => h.2.elim
    | true =>
    obtain ⟨g0, -, ⟨s, g2⟩, g3, g4⟩ := ht
    refine ⟨.ready, .normal, L, g3, by simp, ?_⟩
    have b2 : (H'.set H1.length (.loop .exhausted .normal L))[p]? = some (.row [.int .i64 (T : Int)] 0 s false) := by rw [set_ne (by omega)]; exact g2
    have e2 : ld (H'.set H1.length (.loop .exhausted .normal L)) p 0 0 = some (.int .i64 (T : Int)) := by rw [ld_row b2]; rfl
    show AWL _ _ _ _ _ _
    refine L_reg [2, 3] (fun K hK => ?_)
    simp [e2]
    apply hK; clear hK K
    exact L_ret ⟨.inr rfl, _, rfl, by rw [hTT]; exact h2 _ (g4.set _ (by omega))⟩
theorem Count_q (l : List Int) (v : AV) (hlen : l.length ≤ 1000000) (H : AH) (hv : Ls H v l) (Q : AV → AH → Prop) (h1 : chkC l ≠ 0 → Q (.tuple [.int .i64 0, .int .i64 (chkC l)]) H) (h2 : ∀ c, l = il c → Okc c → Q (.tuple [.int .i64 (cnt c.length c : Nat), .int .i64 0]) H) : AC Try.prog 26 [v] H Q := by
  by_cases c1 : chkC l = 0
  · obtain ⟨c, rfl, ho⟩ := chk_okc c1
    exact AC.quiet (v := .tuple [.int .i64 (cnt c.length c : Nat), .int .i64 0]) (by simp [belB]) (fun Q h => Count_ac (il c) v hlen H hv Q (fun hn => absurd c1 hn) fun d e _ H' hE => by rw [← il_inj e]; exact h H' hE) Q (h2 c rfl ho)
  · exact Count_ac l v hlen H hv Q h1 fun c e ho => absurd (by rw [e]; exact okc_chk ho) c1
end Go.Proofs.Ytbimapbcpmeooaa.Cl
