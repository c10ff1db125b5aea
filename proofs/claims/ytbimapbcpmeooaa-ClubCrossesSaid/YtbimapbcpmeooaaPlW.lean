/- The program's Cross. -/
import Derived.Test.YtbimapbcpmeooaaPlT
namespace Go.Proofs.Ytbimapbcpmeooaa.Cl
open Go Go.Proofs.Ytbimapbcpmeooaa Go.Proofs.Ytbimapbcpmeooaa.AX
set_option maxRecDepth 100000
set_option linter.unusedVariables false
theorem st_pairE {H : AH} {r s ver : Nat} {L : List Ti} (hr : H[r]? = some (.row (ti L).flatten ver s false)) {i : Nat} (hi : i < L.length) (x y : Int) : ∃ s' H', storeV Try.prog 67 H (.ptr r (i * 2) ver) (.agg [.int .i64 x, .int .i64 y]) = some (none, H') ∧ H'[r]? = some (.row (ti (L.set i (x, y))).flatten ver s' false) ∧ KeepX r H H' :=
  ⟨_, _, st_pair hr hi x y, get_set hr, (KeepX.refl r H).set _⟩
set_option maxHeartbeats 1000000 in
theorem CrossP_ac (n : Int) (T : List Ti) (v : AV) (i j : Int) (t : Bool) (hT : T.length ≤ 1000000) (H : AH) (hv : Rs 2 H v (ti T)) (Q : AV → AH → Prop) (hb : crE n T i j t ≠ 0 → ∀ H', Ext H H' → Q (.tuple [zeroPlan, .int .i64 (crE n T i j t)]) H')
    (hg : crE n T i j t = 0 → ∀ u H', Rs 2 H' u (ti (tabG (fun a b => gT (crL T i.toNat j.toNat t) a b == true) n.toNat n.toNat 0)) → Ext H H' → Q (.tuple [.agg [.int .i64 n, u], .int .i64 0]) H') : AC Try.prog 39 [.agg [.int .i64 n, v], .int .i64 i, .int .i64 j, .bool t] H Q := by
  have hu1 := rs_one hv
  obtain ⟨I34, i34, z34⟩ := zeroT_some zt34
  refine L_body 123 Try.func39 rfl rfl ?_
  refine L_reg [1, 2, 3, 4, 8] (fun K hK => ?_)
  simp [AV.isU, acells, i34, z34]
  apply hK; clear hK K
  change AWL _ _ _ _ (H ++ [AObj.row [.int .i64 n, v] 0 0 false, .row [.int .i64 0, .slice none 0 0 0 1 false] 0 0 false]) _
  have hE : Ext H (H ++ [AObj.row [.int .i64 n, v] 0 0 false, .row [.int .i64 0, .slice none 0 0 0 1 false] 0 0 false]) := .push _ _
  have r1 : (H ++ [AObj.row [.int .i64 n, v] 0 0 false, .row [.int .i64 0, .slice none 0 0 0 1 false] 0 0 false])[H.length]? = some (.row [.int .i64 n, v] 0 0 false) := by simp
  have r2 : (H ++ [AObj.row [.int .i64 n, v] 0 0 false, .row [.int .i64 0, .slice none 0 0 0 1 false] 0 0 false])[H.length + 1]? = some (.row [.int .i64 0, .slice none 0 0 0 1 false] 0 0 false) := by simp
  generalize H ++ [AObj.row [.int .i64 n, v] 0 0 false, .row [.int .i64 0, .slice none 0 0 0 1 false] 0 0 false] = HA at *
  have l1 := ld_two (u := 34) ag34 r1 rfl hu1
  rw [ld34] at l1
  have e1 : ld HA H.length 0 0 = some (.int .i64 n) := by rw [ld_row r1]; rfl
  have e3 : ld HA H.length 1 0 = some v := by rw [ld_row r1]; exact known_one hu1
  have hvA := hv.ext hE
  have hvl := ri_len hv
  have fin : ∀ (HX : AH) (x : Int) (u : AV), u.one = true → Ext HA HX → storeV Try.prog 34 HX (.ptr (H.length + 1) 0 0) (.agg [.int .i64 x, u]) = some (none, HX.set (H.length + 1) (.row [.int .i64 x, u] 0 0 false)) ∧ loadV Try.prog 34 (HX.set (H.length + 1) (.row [.int .i64 x, u] 0 0 false)) (.ptr (H.length + 1) 0 0) = some (.agg [.int .i64 x, u]) ∧ Ext H (HX.set (H.length + 1) (.row [.int .i64 x, u] 0 0 false)) := by
    intro HX x u hu hX
    have k := hX.row r2
    exact ⟨st_two (u := 34) ag34 k (by simp) (by simp) rfl hu, ld_two (u := 34) ag34 (get_set k) rfl hu, (hE.trans hX).set _ (by omega)⟩
  have bad : ∀ e : Int, crE n T i j t = e → e ≠ 0 → ∀ HX, Ext HA HX → Q (.tuple [zeroPlan, .int .i64 e]) (HX.set (H.length + 1) (.row [.int .i64 0, .slice none 0 0 0 1 false] 0 0 false)) := fun e he hn HX hX => by
    have := hb (by rw [he]; exact hn) _ (fin HX 0 (.slice none 0 0 0 1 false) rfl hX).2.2
    rwa [he] at this
  refine L_reg [1, 2, 3, 4, 8, 10] (fun K hK => ?_)
  simp [okFn_low, l1]
  refine CheckP_ac n T v hT _ hvA _ (fun H1 hE1 => ?_)
  simp
  apply hK; clear hK K
  refine L_reg [1, 2, 3, 4, 8, 10, 23] (fun K hK => ?_)
  simp
  apply hK; clear hK K
  refine L_dec (errP n T ≠ 0) (by simp [bne0]) (fun c0 => ?_) (fun c0 => ?_)
  · obtain ⟨k1, k2, k3⟩ := fin H1 0 (.slice none 0 0 0 1 false) rfl hE1
    refine L_reg [8, 9] (fun K hK => ?_)
    simp [built34_0, k1]
    apply hK; clear hK K
    exact L_ret ⟨.inr rfl, _, res21 rfl k2 rfl, bad _ (by unfold crE; rw [if_pos c0]) c0 _ hE1⟩
  have two : (i < 0 ∨ (T.length : Int) ≤ i ∨ j < 0 ∨ (T.length : Int) ≤ j) → crE n T i j t = 2 := fun h => by unfold crE; rw [if_neg c0, if_pos h]
  have e3a := hE1.ld e3
  obtain ⟨k1, k2, k3⟩ := fin H1 0 (.slice none 0 0 0 1 false) rfl hE1
  by_cases c1 : i < 0
  · refine L_reg [1, 2, 3, 4, 8, 45] (fun K hK => ?_)
    simp [c1, pickV]
    apply hK; clear hK K
    refine L_true rfl ?_
    refine L_reg [8, 9] (fun K hK => ?_)
    simp [built34_0, k1]
    apply hK; clear hK K
    exact L_ret ⟨.inr rfl, _, res21 rfl k2 rfl, bad 2 (two (.inl c1)) (by decide) _ hE1⟩
  by_cases c2 : (T.length : Int) ≤ i
  · refine L_reg [1, 2, 3, 4, 8, 45] (fun K hK => ?_)
    simp [c1, c2, e3a, hvl, pickV]
    apply hK; clear hK K
    refine L_true rfl ?_
    refine L_reg [8, 9] (fun K hK => ?_)
    simp [built34_0, k1]
    apply hK; clear hK K
    exact L_ret ⟨.inr rfl, _, res21 rfl k2 rfl, bad 2 (two (.inr (.inl c2))) (by decide) _ hE1⟩
  by_cases c3 : j < 0
  · refine L_reg [1, 2, 3, 4, 8, 45] (fun K hK => ?_)
    simp [c1, c2, c3, e3a, hvl, pickV]
    apply hK; clear hK K
    refine L_true rfl ?_
    refine L_reg [8, 9] (fun K hK => ?_)
    simp [built34_0, k1]
    apply hK; clear hK K
    exact L_ret ⟨.inr rfl, _, res21 rfl k2 rfl, bad 2 (two (.inr (.inr (.inl c3)))) (by decide) _ hE1⟩
  by_cases c4 : (T.length : Int) ≤ j
  · refine L_reg [1, 2, 3, 4, 8, 45] (fun K hK => ?_)
    simp [c1, c2, c3, c4, e3a, hvl, pickV]
    apply hK; clear hK K
    refine L_true rfl ?_
    refine L_reg [8, 9] (fun K hK => ?_)
    simp [built34_0, k1]
    apply hK; clear hK K
    exact L_ret ⟨.inr rfl, _, res21 rfl k2 rfl, bad 2 (two (.inr (.inr (.inr c4)))) (by decide) _ hE1⟩
  refine L_reg [1, 2, 3, 4, 8, 45] (fun K hK => ?_)
  simp [c1, c2, c3, c4, e3a, hvl, pickV]
  apply hK; clear hK K
  refine L_false rfl ?_
  obtain ⟨i, rfl⟩ : ∃ m : Nat, i = m := ⟨i.toNat, by omega⟩
  obtain ⟨j, rfl⟩ : ∃ m : Nat, j = m := ⟨j.toNat, by omega⟩
  have hi : i < T.length := by omega
  have hj : j < T.length := by omega
  obtain ⟨p1, q1, v1, x1, f11, f12, -⟩ := ri_ix (hvA.ext hE1) hi
  obtain ⟨p2, q2, v2, x2, f21, f22, -⟩ := ri_ix (hvA.ext hE1) hj
  have gi : T[i]? = some T[i] := List.getElem?_eq_getElem hi
  have gj : T[j]? = some T[j] := List.getElem?_eq_getElem hj
  generalize T[i] = p at f11 f12 gi
  generalize T[j] = q at f21 f22 gj
  obtain ⟨a, b⟩ := p
  obtain ⟨c, d⟩ := q
  have hP0 : errP n T = 0 := Classical.not_not.1 c0
  have ok := errP_ok hP0
  have hcr : crE n T i j t = if shB a b c d then 5 else errP n (crL T i j t) := by
    unfold crE
    rw [if_neg c0, if_neg (by omega)]
    simp only [Int.toNat_natCast, gi, gj]
  have hcl : crL T i j t = (T.set i (a, if t then d else c)).set j (b, if t then c else d) := by
    unfold crL
    simp only [gi, gj]
    cases t <;> rfl
  simp only [Int.toNat_natCast] at hg
  refine L_regT mixed [1, 2, 3, 4, 8, 11, 12] (by kernel_rfl) (fun K hK => ?_)
  simp [e3a, x1, f11, f12]
  apply hK; clear hK K
  refine L_regT mixed [1, 2, 3, 4, 8, 11, 12, 13, 14] (by kernel_rfl) (fun K hK => ?_)
  simp [e3a, x2, f21, f22]
  apply hK; clear hK K
  have five : shB a b c d = true → crE n T i j t = 5 := fun h => by rw [hcr, if_pos h]
  by_cases d1 : a = c
  · refine L_reg [1, 2, 3, 4, 8, 11, 12, 13, 14, 88] (fun K hK => ?_)
    simp [d1, pickV]
    apply hK; clear hK K
    refine L_true rfl ?_
    refine L_reg [8, 9] (fun K hK => ?_)
    simp [built34_0, k1]
    apply hK; clear hK K
    exact L_ret ⟨.inr rfl, _, res21 rfl k2 rfl, bad 5 (five (by simp [shB, d1])) (by decide) _ hE1⟩
  have d1' : (a == c) = false := beq_eq_false_iff_ne.2 d1
  by_cases d2 : a = d
  · refine L_reg [1, 2, 3, 4, 8, 11, 12, 13, 14, 88] (fun K hK => ?_)
    simp [d2 ▸ d1', d2, pickV]
    apply hK; clear hK K
    refine L_true rfl ?_
    refine L_reg [8, 9] (fun K hK => ?_)
    simp [built34_0, k1]
    apply hK; clear hK K
    exact L_ret ⟨.inr rfl, _, res21 rfl k2 rfl, bad 5 (five (by simp [shB, d2])) (by decide) _ hE1⟩
  have d2' : (a == d) = false := beq_eq_false_iff_ne.2 d2
  by_cases d3 : b = c
  · refine L_reg [1, 2, 3, 4, 8, 11, 12, 13, 14, 88] (fun K hK => ?_)
    simp [d1', d2', d3, pickV]
    apply hK; clear hK K
    refine L_true rfl ?_
    refine L_reg [8, 9] (fun K hK => ?_)
    simp [built34_0, k1]
    apply hK; clear hK K
    exact L_ret ⟨.inr rfl, _, res21 rfl k2 rfl, bad 5 (five (by simp [shB, d3])) (by decide) _ hE1⟩
  have d3' : (b == c) = false := beq_eq_false_iff_ne.2 d3
  by_cases d4 : b = d
  · refine L_reg [1, 2, 3, 4, 8, 11, 12, 13, 14, 88] (fun K hK => ?_)
    simp [d1', d2', d4 ▸ d3', d4, pickV]
    apply hK; clear hK K
    refine L_true rfl ?_
    refine L_reg [8, 9] (fun K hK => ?_)
    simp [built34_0, k1]
    apply hK; clear hK K
    exact L_ret ⟨.inr rfl, _, res21 rfl k2 rfl, bad 5 (five (by simp [shB, d4])) (by decide) _ hE1⟩
  have d4' : (b == d) = false := beq_eq_false_iff_ne.2 d4
  refine L_reg [1, 2, 3, 4, 8, 11, 12, 13, 14, 88] (fun K hK => ?_)
  simp [d1', d2', d3', d4', pickV]
  apply hK; clear hK K
  refine L_false rfl ?_
  rw [if_neg (by simp [shB, d1, d2, d3, d4])] at hcr
  obtain ⟨x, hx⟩ : ∃ x, (if t then d else c) = x := ⟨_, rfl⟩
  obtain ⟨y, hy⟩ : ∃ y, (if t then c else d) = y := ⟨_, rfl⟩
  rw [hx, hy] at hcl
  clear five two k1 k2 k3 c1 c2 c3 c4
  refine L_reg [1, 2, 4, 8, 11, 12, 13, 14, 90] (fun K hK => ?_)
  simp
  apply hK; clear hK K
  refine L_condK [1, 2, 4, 8, 11, 12, 13, 14] (fun e' H' => e' = [(1, .int .i64 (i : Int)), (2, .int .i64 (j : Int)), (4, .ptr H.length 0 0), (8, .ptr (H.length + 1) 0 0), (11, .int .i64 a), (12, .int .i64 b), (13, .int .i64 x), (14, .int .i64 y)] ∧ H1 = H') (t := t) rfl (fun ht => ?_) (fun hf => ?_) ?_
  · subst ht
    simp only [if_true] at hx hy
    subst hx hy
    refine L_reg [1, 2, 4, 8, 11, 12, 13, 14] (fun K hK => ?_)
    simp
    apply hK; clear hK K
    exact ⟨by simp, rfl⟩
  · subst hf
    simp only [Bool.false_eq_true, if_false] at hx hy
    subst hx hy
    exact ⟨by simp, rfl⟩
  rintro _ _ ⟨rfl, rfl⟩
  obtain ⟨u, H2, hC, hO, hE2, hu⟩ := CloneI_ex v T (fun p hp => ⟨(ok.rg p hp).1, (ok.rg p hp).2.2.1⟩) H1 hT (hvA.ext hE1)
  refine L_reg [1, 2, 4, 8, 11, 12, 13, 14, 15] (fun K hK => ?_)
  simp [okFn_low, e3a]
  refine hC _ ?_
  simp
  apply hK; clear hK K
  obtain ⟨-, ⟨h0, -⟩ | ⟨r, ver, s, hr, rfl, hrow⟩⟩ := hO
  · have := congrArg List.length h0
    rw [ti_len] at this
    simp at this; subst this; simp at hi
  rw [ti_len]
  obtain ⟨s3, H3, hst3, hr3, hk3⟩ := st_pairE hrow hi a x
  obtain ⟨s4, H4, hst4, hr4, hk4⟩ := st_pairE (i := j) hr3 (by simpa using hj) b y
  have hE4 : Ext HA H4 := (hk3.trans hk4).new (hE1.trans hE2) (by have := hE1.1; omega)
  refine L_reg [4, 8, 15] (fun K hK => ?_)
  simp [bd67, hi, hj, hst3, hst4]
  apply hK; clear hK K
  rw [← hcl] at hr4
  have hLl : (crL T i j t).length = T.length := by rw [hcl]; simp
  have hR : Rs 2 H4 (.slice (some r) 0 T.length ver 2 false) (ti (crL T i j t)) := by
    have := OwnK.rs (N := 0) ⟨ti_ok (crL T i j t), .inr ⟨r, ver, s4, Nat.zero_le _, rfl, hr4⟩⟩
    rwa [ti_len, hLl] at this
  have hb34 := built34u n hR
  obtain ⟨m, rfl⟩ : ∃ m : Nat, n = m := ⟨n.toNat, by have := ok.lo; omega⟩
  have hm := ok.hi
  refine L_reg [8, 16, 17] (fun K hK => ?_)
  simp [okFn_low, hE4.ld e1, hb34]
  refine ask_ac 78 (okFn_low (by omega) (by omega)) m (crL T i j t) _ (by omega) _ hR _ (fun e H5 hE5 => ?_) (fun e H5 hE5 => tidyP_ac m (by omega) (gT (crL T i j t)) _ _ (fun w H6 hw hE6 => ?_))
  · simp
    apply hK; clear hK K
    rw [← hcr] at e
    rw [← hcr]
    have hE45 := hE4.trans hE5
    have r18 : (H5 ++ [AObj.row [.int .i64 0, .slice none 0 0 0 1 false] 0 0 false])[H5.length]? = some (.row [.int .i64 0, .slice none 0 0 0 1 false] 0 0 false) := by simp
    have hst := st_two (u := 34) ag34 (x := .int .i64 0) (y := .slice none 0 0 0 1 false) r18 (by simp) (by simp) rfl rfl
    have k18 := get_set (o' := .row [.int .i64 0, .slice none 0 0 0 1 false] 0 0 false) r18
    have kE : Ext H5 ((H5 ++ [AObj.row [.int .i64 0, .slice none 0 0 0 1 false] 0 0 false]).set H5.length (.row [.int .i64 0, .slice none 0 0 0 1 false] 0 0 false)) := (Ext.push _ _).set _ (Nat.le_refl _)
    refine L_reg [8, 17, 18] (fun K hK => ?_)
    simp [ta0, zeroPlan, i34, z34, hst]
    apply hK; clear hK K
    simp only [List.set_append_right _ _ (Nat.le_refl H5.length), Nat.sub_self, List.set_cons_zero] at k18 kE ⊢
    generalize H5 ++ [AObj.row [.int .i64 0, .slice none 0 0 0 1 false] 0 0 false] = H6 at *
    have l18 := ld_two (u := 34) ag34 k18 rfl rfl
    rw [ld34] at l18
    obtain ⟨k1, k2, k3⟩ := fin H6 0 (.slice none 0 0 0 1 false) rfl (hE45.trans kE)
    refine L_reg [8, 9] (fun K hK => ?_)
    simp [l18, k1]
    apply hK; clear hK K
    exact L_ret ⟨.inr rfl, _, res21 rfl k2 rfl, bad _ rfl e _ (hE45.trans kE)⟩
  · simp
    apply hK; clear hK K
    rw [← hcr] at e
    have hw1 := rs_one hw.rs
    have hn5 : H.length + 1 < H5.length := by
      have g1 := (List.getElem?_eq_some_iff.1 r2).1
      have g2 := (hE4.trans hE5).1
      omega
    have hE46 := (hE4.trans hE5).trans hE6
    have r18 : (H6 ++ [AObj.row [.int .i64 0, .slice none 0 0 0 1 false] 0 0 false])[H6.length]? = some (.row [.int .i64 0, .slice none 0 0 0 1 false] 0 0 false) := by simp
    have hst := st_two (u := 34) ag34 (x := .int .i64 (m : Int)) (y := w) r18 (by simp) (by simp) rfl hw1
    have k18 := get_set (o' := .row [.int .i64 (m : Int), w] 0 0 false) r18
    have kE : Ext H6 ((H6 ++ [AObj.row [.int .i64 0, .slice none 0 0 0 1 false] 0 0 false]).set H6.length (.row [.int .i64 (m : Int), w] 0 0 false)) := (Ext.push _ _).set _ (Nat.le_refl _)
    refine L_reg [8, 17, 18] (fun K hK => ?_)
    simp [ta1, i34, z34, hst]
    apply hK; clear hK K
    simp only [List.set_append_right _ _ (Nat.le_refl H6.length), Nat.sub_self, List.set_cons_zero] at k18 kE ⊢
    generalize H6 ++ [AObj.row [.int .i64 (m : Int), w] 0 0 false] = H7 at *
    have l18 := ld_two (u := 34) ag34 k18 rfl hw1
    rw [ld34] at l18
    obtain ⟨k1, k2, k3⟩ := fin H7 (m : Int) w hw1 (hE46.trans kE)
    refine L_reg [8, 9] (fun K hK => ?_)
    simp [l18, k1]
    apply hK; clear hK K
    exact L_ret ⟨.inr rfl, _, res21 rfl k2 rfl, hg e w _ (ownK_set (hw.ext kE) hn5 _).rs k3⟩
end Go.Proofs.Ytbimapbcpmeooaa.Cl
