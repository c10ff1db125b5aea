/- Plans of counts are made and counted as the reference says: the walk. -/
import Derived.Test.YtbimapbcpmeooaaRefE
import Derived.Test.YtbimapbcpmeooaaWCan
namespace Go.Proofs.Ytbimapbcpmeooaa.Cl
open Go Go.Proofs.Ytbimapbcpmeooaa Go.Proofs.Ytbimapbcpmeooaa.AX
set_option maxRecDepth 100000
set_option linter.unusedVariables false
theorem built37_0 : aBuilt Try.prog 37 [] = some [.int .i64 0, .slice none 0 0 0 1 false] := by kernel_rfl
theorem built37 (n : Int) {v : AV} {r : Option Nat} {off len ver sz : Nat} {full : Bool} (hv : v = .slice r off len ver sz full) : aBuilt Try.prog 37 [(0, .int .i64 n), (1, v)] = some [.int .i64 n, v] := by subst hv; kernel_rfl
theorem res21 {P : Program} {fn : Func} {e : Env} {H : AH} {b1 : Tmp} {t1 : TypeId} {b2 : Tmp} {v1 v2 : AV} (hr : fn.results = #[.cell b1 t1, .tmp b2]) (h1 : loadV P t1 H (eget e b1) = some v1) (h2 : eget e b2 = v2) : aResults P fn e H = some (.tuple [v1, v2]) := by
  subst h2
  have g1 : aRes1 P e H (.cell b1 t1) = some v1 := h1
  have g2 : aRes1 P e H (.tmp b2) = some (eget e b2) := rfl
  simp [aResults, hr, aResList, g1, g2]
/-- What both ways of Make answer. -/
structure MkQ (l : List Int) (N : Nat) (Q : AV → AH → Prop) (H : AH) : Prop where
  bad : chkC l ≠ 0 → ∀ H', Ext H H' → Q (.tuple [zeroPlan, .int .i64 (chkC l)]) H'
  none : ∀ c, l = il c → Okc c → canB c = false → ∀ H', Ext H H' → Q (.tuple [zeroPlan, .int .i64 12]) H'
  some : ∀ c, l = il c → Okc c → canB c = true → ∀ u H', Rs 2 H' u (tb (mdd c.length 0 c)) → Ext H H' → Q (.tuple [.agg [.int .i64 (c.length : Nat), u], .int .i64 0]) H'
theorem Make_t (l : List Int) (v : AV) (hlen : l.length ≤ 1000000) (H : AH) (hv : Ls H v l) (Q : AV → AH → Prop) (h : MkQ l 0 Q H) : AC Try.prog 23 [v] H Q := by
  refine Make_ac l v hlen H hv Q h.bad (fun c e ho hs H' hE => h.none c e ho ?_ H' hE) (fun c T e ho hs u H' hO hE => ?_)
  · cases hc : canB c with
    | false => rfl
    | true => exact absurd hs ((sols_can rfl ho.le).2 hc)
  · have hc : canB c = true := (sols_can (a := 0) rfl ho.le).1 (fun hn => by rw [hn] at hs; cases hs)
    rw [sols_head c.length 0 c rfl ho.le hc] at hs
    obtain rfl := Option.some.inj hs
    exact h.some c e ho hc u H' hO.rs hE
theorem Make_r (l : List Int) (v : AV) (hlen : l.length ≤ 1000000) (H : AH) (hv : Ls H v l) (Q : AV → AH → Prop) (h : MkQ l 0 Q H) : AC Try.prog 24 [v] H Q := by
  refine L_body 23 Try.func24 rfl rfl ?_
  obtain ⟨I37, i37, z37⟩ := zeroT_some zt37
  refine L_reg [0, 2] (fun K hK => ?_)
  simp [i37, z37]
  apply hK; clear hK K
  have hE0 : Ext H (H ++ [AObj.row [.int .i64 0, .slice none 0 0 0 1 false] 0 0 false]) := .push _ _
  have hr : (H ++ [AObj.row [.int .i64 0, .slice none 0 0 0 1 false] 0 0 false])[H.length]? = some (.row [.int .i64 0, .slice none 0 0 0 1 false] 0 0 false) := by simp
  generalize H ++ [AObj.row [.int .i64 0, .slice none 0 0 0 1 false] 0 0 false] = H1 at *
  have hv1 := hv.ext hE0
  have hl := (List.getElem?_eq_some_iff.1 hr).1
  have put : ∀ (H2 : AH) (n : Int) (u : AV), u.one = true → H2[H.length]? = some (.row [.int .i64 0, .slice none 0 0 0 1 false] 0 0 false) → ∃ H3, storeV Try.prog 37 H2 (.ptr H.length 0 0) (.agg [.int .i64 n, u]) = some (none, H3) ∧ loadV Try.prog 37 H3 (.ptr H.length 0 0) = some (.agg [.int .i64 n, u]) ∧ H3 = H2.set H.length (.row [.int .i64 n, u] 0 0 false) := by
    intro H2 n u hu h2
    exact ⟨_, st_two ag37 h2 (by simp) (by simp) rfl hu, ld_two ag37 (get_set h2) rfl hu, rfl⟩
  refine L_reg [0, 2, 4] (fun K hK => ?_)
  simp [okFn_low]
  refine CheckR_q l v hlen _ hv1 _ ?_
  simp
  apply hK; clear hK K
  obtain ⟨H9, s9, l9, e9⟩ := put H1 0 (.slice none 0 0 0 1 false) rfl hr
  have hE9 : Ext H H9 := by rw [e9]; exact hE0.set _ (Nat.le_refl _)
  by_cases c1 : chkC l = 0
  · obtain ⟨c, rfl, ho⟩ := chk_okc c1
    have hvl := ils_len hv1
    rw [c1]
    refine L_reg [0, 2, 4, 13] (fun K hK => ?_)
    simp [okFn_low]
    refine can_q c v ho.b ho.le _ hv1 _ ?_
    simp [pickV]
    apply hK; clear hK K
    by_cases e : canB c = true
    · refine L_false (by simpa using e) ?_
      refine L_reg [0, 2, 4, 15] (fun K hK => ?_)
      simp
      apply hK; clear hK K
      refine L_false (by simp) ?_
      refine L_reg [2, 3] (fun K hK => ?_)
      simp [okFn_low, hvl]
      have hp := ho.le
      refine made_ac c.length c 0 v rfl ho.le (by omega) ho.b e _ hv1 _ (fun u H2 hO hE => ?_)
      obtain ⟨r8, v8, z8, hu8⟩ := hO.len
      obtain ⟨H3, s3, l3, e3⟩ := put H2 (c.length : Nat) u (rs_one hO.rs) (hE.row hr)
      have hu3 : Rs 2 H3 u (tb (mdd c.length 0 c)) := by
        obtain ⟨q1, q2⟩ := hO
        refine OwnK.rs (N := 0) ⟨q1, ?_⟩
        rcases q2 with q2 | ⟨r, ver, st, q3, q4, q5⟩
        · exact .inl q2
        · exact .inr ⟨r, ver, st, Nat.zero_le _, q4, by rw [e3, set_ne (by omega)]; exact q5⟩
      have hE3 : Ext H H3 := by rw [e3]; exact (hE0.trans hE).set _ (Nat.le_refl _)
      simp [built37 _ hu8, s3]
      apply hK; clear hK K
      exact L_ret ⟨.inr rfl, _, res21 (v1 := .agg [.int .i64 (c.length : Nat), u]) (v2 := .int .i64 0) rfl l3 rfl, h.some c rfl ho e u H3 hu3 hE3⟩
    · refine L_true (by simpa using e) ?_
      refine L_reg [0, 2, 4] (fun K hK => ?_)
      simp
      apply hK; clear hK K
      refine L_reg [0, 2, 4, 15] (fun K hK => ?_)
      simp
      apply hK; clear hK K
      refine L_true (by simp) ?_
      refine L_reg [2, 3] (fun K hK => ?_)
      simp [built37_0, s9]
      apply hK; clear hK K
      exact L_ret ⟨.inr rfl, _, res21 (v1 := zeroPlan) (v2 := .int .i64 12) rfl l9 rfl, h.none c rfl ho (by simpa using e) _ hE9⟩
  · have c2 : (chkC l == 0) = false := by simpa using c1
    refine L_reg [0, 2, 4, 13] (fun K hK => ?_)
    simp [c2, pickV]
    apply hK; clear hK K
    refine L_false (by simp) ?_
    refine L_reg [0, 2, 4, 15] (fun K hK => ?_)
    simp
    apply hK; clear hK K
    refine L_true (by simpa using c1) ?_
    refine L_reg [2, 3] (fun K hK => ?_)
    simp [built37_0, s9]
    apply hK; clear hK K
    exact L_ret ⟨.inr rfl, _, res21 (v1 := zeroPlan) (v2 := .int .i64 (chkC l)) rfl l9 rfl, h.bad c1 _ hE9⟩
/-- What Make answers, told once for both. -/
theorem Make_both (l : List Int) : ∃ (n : Int) (T : List Tb) (e : Int), T.length ≤ 1000 ∧ ∀ F, F = 23 ∨ F = 24 → ∀ (v : AV), l.length ≤ 1000000 → ∀ (H : AH), Ls H v l → ∀ (Q : AV → AH → Prop), (∀ u H', Rs 2 H' u (tb T) → Ext H H' → Q (.tuple [.agg [.int .i64 n, u], .int .i64 e]) H') → AC Try.prog F [v] H Q := by
  have key : ∀ (n : Int) (T : List Tb) (e : Int), (∀ (Q : AV → AH → Prop) (H : AH), (∀ u H', Rs 2 H' u (tb T) → Ext H H' → Q (.tuple [.agg [.int .i64 n, u], .int .i64 e]) H') → MkQ l 0 Q H) → ∀ F, F = 23 ∨ F = 24 → ∀ (v : AV), l.length ≤ 1000000 → ∀ (H : AH), Ls H v l → ∀ (Q : AV → AH → Prop), (∀ u H', Rs 2 H' u (tb T) → Ext H H' → Q (.tuple [.agg [.int .i64 n, u], .int .i64 e]) H') → AC Try.prog F [v] H Q := by
    intro n T e hk F hF v hlen H hv Q h
    rcases hF with rfl | rfl
    · exact Make_t l v hlen H hv Q (hk Q H h)
    · exact Make_r l v hlen H hv Q (hk Q H h)
  by_cases c1 : chkC l = 0
  · obtain ⟨c, rfl, ho⟩ := chk_okc c1
    cases hc : canB c with
    | true =>
      refine ⟨(c.length : Nat), mdd c.length 0 c, 0, ?_, key _ _ _ fun Q H h => ⟨fun hn => absurd c1 hn, fun d e _ hd => ?_, fun d e _ _ u H' hu hE => ?_⟩⟩
      · have := mdd_len c.length 0 c (Nat.le_refl _)
        have : c.length * c.length ≤ 8 * 8 := Nat.mul_le_mul ho.le ho.le
        omega
      · rw [← il_inj e, hc] at hd; cases hd
      · obtain rfl := il_inj e
        exact h u H' hu hE
    | false =>
      refine ⟨0, [], 12, by simp, key _ _ _ fun Q H h => ⟨fun hn => absurd c1 hn, fun d e _ _ H' hE => h _ H' (Rs.nil 2 H') hE, fun d e _ hd => ?_⟩⟩
      rw [← il_inj e, hc] at hd; cases hd
  · exact ⟨0, [], chkC l, by simp, key _ _ _ fun Q H h => ⟨fun _ H' hE => h _ H' (Rs.nil 2 H') hE, fun d e ho _ => absurd (by rw [e]; exact okc_chk ho) c1, fun d e ho _ => absurd (by rw [e]; exact okc_chk ho) c1⟩⟩
def cntX (l : List Int) : Nat := if chkC l = 0 then cnt (l.map Int.toNat).length (l.map Int.toNat) else 0
theorem Count_t (F : Nat) (hF : F = 26 ∨ F = 27) (l : List Int) (v : AV) (hlen : l.length ≤ 1000000) (H : AH) (hv : Ls H v l) (Q : AV → AH → Prop) (h : ∀ H', Ext H H' → Q (.tuple [.int .i64 (cntX l : Nat), .int .i64 (chkC l)]) H') : AC Try.prog F [v] H Q := by
  have h1 : chkC l ≠ 0 → Q (.tuple [.int .i64 0, .int .i64 (chkC l)]) H := fun hn => by
    have := h _ (.refl H)
    unfold cntX at this
    rw [if_neg hn] at this
    exact this
  have h2 : ∀ c, l = il c → Okc c → ∀ H', Ext H H' → Q (.tuple [.int .i64 (cnt c.length c : Nat), .int .i64 0]) H' := fun c e ho H' hE => by
    subst e
    have := h _ hE
    unfold cntX at this
    rw [if_pos (okc_chk ho), okc_chk ho, il_nat] at this
    exact this
  rcases hF with rfl | rfl
  · exact Count_q l v hlen H hv Q h1 fun c e ho => h2 c e ho H (.refl H)
  · exact Count_r l v hlen H hv Q h1 h2
def onlX (l : List Int) : Bool := if chkC l = 0 then decide (cntX l = 1) else false
def onlE (l : List Int) : Int := if chkC l = 0 then (if cntX l = 0 then 12 else 0) else chkC l
theorem Only_t (F : Nat) (hF : F = 28 ∨ F = 29) (l : List Int) (v : AV) (hlen : l.length ≤ 1000000) (H : AH) (hv : Ls H v l) (Q : AV → AH → Prop) (h : ∀ H', Ext H H' → Q (.tuple [.bool (onlX l), .int .i64 (onlE l)]) H') : AC Try.prog F [v] H Q := by
  have h1 : chkC l ≠ 0 → Q (.tuple [.bool false, .int .i64 (chkC l)]) H := fun hn => by
    have := h _ (.refl H)
    unfold onlX onlE at this
    rw [if_neg hn, if_neg hn] at this
    exact this
  have h2 : ∀ c, l = il c → Okc c → ∀ H', Ext H H' → Q (onlyA c) H' := fun c e ho H' hE => by
    subst e
    have := h _ hE
    unfold onlX onlE cntX at this
    rw [if_pos (okc_chk ho), if_pos (okc_chk ho), if_pos (okc_chk ho), il_nat] at this
    unfold onlyA
    by_cases c0 : cnt c.length c = 0
    · rw [if_pos c0, decide_eq_false (by omega)] at this
      rw [if_pos c0]
      exact this
    · rw [if_neg c0] at this
      rw [if_neg c0]
      exact this
  rcases hF with rfl | rfl
  · exact Only_q l v hlen H hv Q h1 fun c e ho => h2 c e ho H (.refl H)
  · exact Only_r l v hlen H hv Q h1 h2
set_option maxHeartbeats 2000000 in
theorem makes_ac (l : List Int) (v : AV) (H : AH) (hv : Ls H v l) : AC Try.prog 4 [v] H fun r _ => r = .bool true := by
  have hvl := ls_len hv
  refine L_body 81 Try.func4 rfl rfl ?_
  refine L_reg [0] (fun K hK => ?_)
  simp
  apply hK; clear hK K
  refine L_reg [0, 15] (fun K hK => ?_)
  simp [hvl]
  apply hK; clear hK K
  refine L_dec (60 < l.length) (by simp; omega) (fun c => ?_) (fun c => ?_)
  · refine L_reg [2] (fun K hK => ?_)
    simp [okFn_low]
    refine works_ac _ _ ?_
    simp
    apply hK; clear hK K
    exact L_ret ⟨.inr rfl, _, rfl, rfl⟩
  obtain ⟨n, T, e, hT, hM⟩ := Make_both l
  obtain ⟨I34, i34, z34⟩ := zeroT_some zt34
  obtain ⟨I37, i37, z37⟩ := zeroT_some zt37
  refine L_reg [0, 3, 4] (fun K hK => ?_)
  simp [okFn_low]
  refine hM 23 (.inl rfl) v (by omega) _ hv _ (fun u H1 hu hE1 => ?_)
  have hu1 := rs_one hu
  have hr1 : (H1 ++ [AObj.row [.int .i64 0, .slice none 0 0 0 1 false] 0 0 false])[H1.length]? = some (.row [.int .i64 0, .slice none 0 0 0 1 false] 0 0 false) := by simp
  have hst1 := st_two (u := 34) ag34 (x := .int .i64 n) (y := u) hr1 (by simp) (by simp) rfl hu1
  have k1 := get_set (o' := .row [.int .i64 n, u] 0 0 false) hr1
  have kE1 : Ext H1 ((H1 ++ [AObj.row [.int .i64 0, .slice none 0 0 0 1 false] 0 0 false]).set H1.length (.row [.int .i64 n, u] 0 0 false)) := (Ext.push _ _).set _ (Nat.le_refl _)
  simp [i34, z34, hst1]
  apply hK; clear hK K
  simp only [List.set_append_right _ _ (Nat.le_refl H1.length), Nat.sub_self, List.set_cons_zero] at k1 kE1
  generalize H1 ++ [AObj.row [.int .i64 n, u] 0 0 false] = H2 at *
  have hE2 := hE1.trans kE1
  have hu2 := hu.ext kE1
  refine L_reg [0, 3, 4, 5, 6] (fun K hK => ?_)
  simp [okFn_low]
  refine hM 24 (.inr rfl) v (by omega) _ (hv.ext hE2) _ (fun w H3 hw hE3 => ?_)
  have hw1 := rs_one hw
  have hr3 : (H3 ++ [AObj.row [.int .i64 0, .slice none 0 0 0 1 false] 0 0 false])[H3.length]? = some (.row [.int .i64 0, .slice none 0 0 0 1 false] 0 0 false) := by simp
  have hst3 := st_two (u := 37) ag37 (x := .int .i64 n) (y := w) hr3 (by simp) (by simp) rfl hw1
  have k3 := get_set (o' := .row [.int .i64 n, w] 0 0 false) hr3
  have kE3 : Ext H3 ((H3 ++ [AObj.row [.int .i64 0, .slice none 0 0 0 1 false] 0 0 false]).set H3.length (.row [.int .i64 n, w] 0 0 false)) := (Ext.push _ _).set _ (Nat.le_refl _)
  simp [i37, z37, hst3]
  apply hK; clear hK K
  simp only [List.set_append_right _ _ (Nat.le_refl H3.length), Nat.sub_self, List.set_cons_zero] at k3 kE3
  have k1' := (hE3.trans kE3).row k1
  have hE4 := (hE2.trans hE3).trans kE3
  have hu4 := (hu2.ext hE3).ext kE3
  have hw4 := hw.ext kE3
  generalize H3 ++ [AObj.row [.int .i64 n, w] 0 0 false] = H4 at *
  have l1 := ld_two (u := 34) ag34 k1' rfl hu1
  have l3 := ld_two (u := 37) ag37 k3 rfl hw1
  refine L_reg [0, 35] (fun K hK => ?_)
  simp [okFn_low, l1, l3]
  refine alike_ac n n T T u w (by omega) _ hu4 hw4 _ (fun H5 hE5 => ?_)
  simp [pickV]
  apply hK; clear hK K
  refine L_false rfl ?_
  have hE := hE4.trans hE5
  have hv5 := hv.ext hE
  have hvl5 := ls_len hv5
  refine L_reg [0, 38] (fun K hK => ?_)
  simp [hvl5]
  apply hK; clear hK K
  refine L_dec (l.length = 8) (by
    have e : ((l.length : Int) == 8) = decide (l.length = 8) := by rw [Bool.eq_iff_iff, beq_iff_eq, decide_eq_true_eq]; omega
    simp [e]) (fun c8 => ?_) (fun c8 => ?_)
  · refine L_reg [2] (fun K hK => ?_)
    simp [okFn_low]
    refine works_ac _ _ ?_
    simp
    apply hK; clear hK K
    exact L_ret ⟨.inr rfl, _, rfl, rfl⟩
  refine L_reg [0, 7, 8] (fun K hK => ?_)
  simp [okFn_low]
  refine Count_t 26 (.inl rfl) l v (by omega) _ hv5 _ (fun H6 hE6 => ?_)
  simp
  apply hK; clear hK K
  refine L_reg [0, 7, 8, 9, 10] (fun K hK => ?_)
  simp [okFn_low]
  refine Count_t 27 (.inr rfl) l v (by omega) _ (hv5.ext hE6) _ (fun H7 hE7 => ?_)
  simp
  apply hK; clear hK K
  have hv7 := (hv5.ext hE6).ext hE7
  refine L_reg [0, 4, 7, 8, 9, 10, 11] (fun K hK => ?_)
  simp [okFn_low]
  refine Only_t 28 (.inl rfl) l v (by omega) _ hv7 _ (fun H8 hE8 => ?_)
  simp
  apply hK; clear hK K
  refine L_reg [4, 6, 7, 8, 9, 10, 11, 12] (fun K hK => ?_)
  simp [okFn_low]
  refine Only_t 29 (.inr rfl) l v (by omega) _ (hv7.ext hE8) _ (fun H9 hE9 => ?_)
  simp
  apply hK; clear hK K
  refine L_reg [2] (fun K hK => ?_)
  simp [okFn_low, pickV]
  refine works_ac _ _ ?_
  simp [pickV]
  apply hK; clear hK K
  exact L_ret ⟨.inr rfl, _, rfl, rfl⟩
end Go.Proofs.Ytbimapbcpmeooaa.Cl
