/- ClubCrosses: the walk. -/
import Derived.Test.YtbimapbcpmeooaaPlX
namespace Go.Proofs.Ytbimapbcpmeooaa.Cl
open Go Go.Proofs.Ytbimapbcpmeooaa Go.Proofs.Ytbimapbcpmeooaa.AX
set_option maxRecDepth 100000
set_option linter.unusedVariables false
theorem rowG_nn (p : Nat → Nat → Bool) (a : Nat) : ∀ k b, ∀ q ∈ rowG p a k b, 0 ≤ q.1 ∧ 0 ≤ q.2
  | 0, _ => fun q hq => by simp [rowG] at hq
  | k + 1, b => fun q hq => by
    rw [rowG, List.mem_append] at hq
    rcases hq with h | h
    · split at h
      · simp at h; subst h; exact ⟨by simp, by simp⟩
      · cases h
    · exact rowG_nn p a k (b + 1) q h
theorem tabG_nn (p : Nat → Nat → Bool) (m : Nat) : ∀ k a, ∀ q ∈ tabG p m k a, 0 ≤ q.1 ∧ 0 ≤ q.2
  | 0, _ => fun q hq => by simp [tabG] at hq
  | k + 1, a => fun q hq => by
    rw [tabG, List.mem_append] at hq
    rcases hq with h | h
    · exact rowG_nn p a _ _ q h
    · exact tabG_nn p m k (a + 1) q h
theorem tabG_le (p : Nat → Nat → Bool) (m : Nat) : ∀ k a, (tabG p m k a).length ≤ k * m
  | 0, _ => by simp [tabG]
  | k + 1, a => by
    have h1 := rowG_len p a (m - (a + 1)) (a + 1)
    have h2 := tabG_le p m k (a + 1)
    rw [tabG, List.length_append, Nat.add_mul]
    omega
/-- What both ways of Cross answer. -/
theorem Cross_both (n : Int) (T : List Ti) (i j : Int) (t : Bool) (hT : T.length ≤ 1000000) : ∃ (m : Int) (S : List Tb) (e : Int), S.length ≤ 1000000 ∧ ∀ f, (f = 39 ∨ f = 40) → ∀ (v : AV) (H : AH), Rs 2 H v (ti T) → ∀ Q : AV → AH → Prop, (∀ u H', Rs 2 H' u (tb S) → Ext H H' → Q (.tuple [.agg [.int .i64 m, u], .int .i64 e]) H') → AC Try.prog f [.agg [.int .i64 n, v], .int .i64 i, .int .i64 j, .bool t] H Q := by
  obtain ⟨h1, h2⟩ := cross_eq n T i j t
  by_cases c : crF n T i j t = 0
  · have h2 := h2 c
    have he : (fun a b : Nat => gT (crL T i.toNat j.toNat t) a b == true) = (fun a b : Nat => hasT (crR T i.toNat j.toNat t) a b != false) := by
      funext a b
      unfold gT
      rw [h2]
      cases hasT (crR T i.toNat j.toNat t) a b <;> rfl
    have ok : OkP n T := by
      unfold crF at c
      by_cases c0 : errP n T ≠ 0
      · rw [if_pos c0] at c; exact absurd c c0
      · exact errP_ok (Classical.not_not.1 c0)
    have hlen := tabG_le (fun a b : Nat => hasT (crR T i.toNat j.toNat t) a b != false) n.toNat n.toNat 0
    have h8 : n.toNat ≤ 8 := by have := ok.hi; omega
    have h64 : n.toNat * n.toNat ≤ 8 * 8 := Nat.mul_le_mul h8 h8
    refine ⟨n, (tabG (fun a b : Nat => hasT (crR T i.toNat j.toNat t) a b != false) n.toNat n.toNat 0).map fun p => (p.1.toNat, p.2.toNat), 0, by rw [List.length_map]; omega, ?_⟩
    rw [← ti_tb (tabG_nn _ _ _ _)]
    rintro f (rfl | rfl) v H hv Q hq
    · refine CrossP_ac n T v i j t hT H hv Q (fun h => absurd (h1.trans c) h) (fun _ u H' hu hE => ?_)
      rw [he] at hu
      exact hq u H' hu hE
    · exact CrossR_ac n T v i j t hT H hv Q (fun h => absurd c h) (fun _ u H' hu hE => hq u H' hu hE)
  · refine ⟨0, [], crF n T i j t, by simp, ?_⟩
    rintro f (rfl | rfl) v H hv Q hq
    · refine CrossP_ac n T v i j t hT H hv Q (fun _ H' hE => ?_) (fun h => absurd (h1.symm.trans h) c)
      rw [h1]
      exact hq _ H' (Rs.nil 2 H') hE
    · exact CrossR_ac n T v i j t hT H hv Q (fun _ H' hE => hq _ H' (Rs.nil 2 H') hE) (fun h => absurd h c)
theorem crosses_ac (n : Int) (T : List Ti) (v : AV) (i j : Int) (t : Bool) (H : AH) (hv : Rs 2 H v (ti T)) : AC Try.prog 6 [.agg [.int .i64 n, v], .int .i64 i, .int .i64 j, .bool t] H (fun x _ => x = .bool true) := by
  have hu0 := rs_one hv
  obtain ⟨I34, i34, z34⟩ := zeroT_some zt34
  obtain ⟨I37, i37, z37⟩ := zeroT_some zt37
  refine L_body 45 Try.func6 rfl rfl ?_
  refine L_reg [1, 2, 3, 4] (fun K hK => ?_)
  simp [AV.isU, acells]
  apply hK; clear hK K
  have hE : Ext H (H ++ [AObj.row [.int .i64 n, v] 0 0 false]) := .push _ _
  have r1 : (H ++ [AObj.row [.int .i64 n, v] 0 0 false])[H.length]? = some (.row [.int .i64 n, v] 0 0 false) := by simp
  generalize H ++ [AObj.row [.int .i64 n, v] 0 0 false] = HA at *
  have l1 := ld_two (u := 34) ag34 r1 rfl hu0
  rw [ld34] at l1
  have e3 : ld HA H.length 1 0 = some v := by rw [ld_row r1]; exact known_one hu0
  have hvA := hv.ext hE
  have hvl := ri_len hv
  refine L_reg [1, 2, 3, 4, 16] (fun K hK => ?_)
  simp [e3, hvl]
  apply hK; clear hK K
  refine L_dec (60 < T.length) (by simp; omega) (fun c => ?_) (fun c => ?_)
  · refine L_reg [8] (fun K hK => ?_)
    simp [okFn_low]
    refine works_ac _ _ ?_
    simp
    apply hK; clear hK K
    exact L_ret ⟨.inr rfl, _, rfl, rfl⟩
  obtain ⟨m, S, e, hS, hM⟩ := Cross_both n T i j t (by omega)
  refine L_reg [1, 2, 3, 4, 9, 10] (fun K hK => ?_)
  simp [okFn_low, l1]
  refine hM 39 (.inl rfl) v _ hvA _ (fun u H1 hu hE1 => ?_)
  have hu1 := rs_one hu
  have hr1 : (H1 ++ [AObj.row [.int .i64 0, .slice none 0 0 0 1 false] 0 0 false])[H1.length]? = some (.row [.int .i64 0, .slice none 0 0 0 1 false] 0 0 false) := by simp
  have hst1 := st_two (u := 34) ag34 (x := .int .i64 m) (y := u) hr1 (by simp) (by simp) rfl hu1
  have k1 := get_set (o' := .row [.int .i64 m, u] 0 0 false) hr1
  have kE1 : Ext H1 ((H1 ++ [AObj.row [.int .i64 0, .slice none 0 0 0 1 false] 0 0 false]).set H1.length (.row [.int .i64 m, u] 0 0 false)) := (Ext.push _ _).set _ (Nat.le_refl _)
  simp [i34, z34, hst1]
  apply hK; clear hK K
  simp only [List.set_append_right _ _ (Nat.le_refl H1.length), Nat.sub_self, List.set_cons_zero] at k1 kE1
  generalize H1 ++ [AObj.row [.int .i64 m, u] 0 0 false] = H2 at *
  have hE2 := hE1.trans kE1
  have hu2 := hu.ext kE1
  have l2 := ld_two (u := 37) ag37 (hE2.row r1) rfl hu0
  have l2' := ld_two (u := 34) ag34 (hE2.row r1) rfl hu0
  rw [ld37] at l2
  refine L_reg [9, 10, 11, 12] (fun K hK => ?_)
  simp [okFn_low, l2]
  refine hM 40 (.inr rfl) v _ (hvA.ext hE2) _ (fun w H3 hw hE3 => ?_)
  have hw1 := rs_one hw
  have hr3 : (H3 ++ [AObj.row [.int .i64 0, .slice none 0 0 0 1 false] 0 0 false])[H3.length]? = some (.row [.int .i64 0, .slice none 0 0 0 1 false] 0 0 false) := by simp
  have hst3 := st_two (u := 37) ag37 (x := .int .i64 m) (y := w) hr3 (by simp) (by simp) rfl hw1
  have k3 := get_set (o' := .row [.int .i64 m, w] 0 0 false) hr3
  have kE3 : Ext H3 ((H3 ++ [AObj.row [.int .i64 0, .slice none 0 0 0 1 false] 0 0 false]).set H3.length (.row [.int .i64 m, w] 0 0 false)) := (Ext.push _ _).set _ (Nat.le_refl _)
  simp [i37, z37, hst3]
  apply hK; clear hK K
  simp only [List.set_append_right _ _ (Nat.le_refl H3.length), Nat.sub_self, List.set_cons_zero] at k3 kE3
  have k1' := (hE3.trans kE3).row k1
  have hu4 := (hu2.ext hE3).ext kE3
  have hw4 := hw.ext kE3
  generalize H3 ++ [AObj.row [.int .i64 m, w] 0 0 false] = H4 at *
  have l1' := ld_two (u := 34) ag34 k1' rfl hu1
  have l3 := ld_two (u := 37) ag37 k3 rfl hw1
  rw [ld34] at l1'
  rw [ld37] at l3
  refine L_reg [8] (fun K hK => ?_)
  simp [okFn_low, l1', l3]
  refine alike_ac m m S S u w hS _ hu4 hw4 _ (fun H5 hE5 => ?_)
  simp [okFn_low, pickV]
  refine works_ac _ _ ?_
  simp [pickV]
  apply hK; clear hK K
  exact L_ret ⟨.inr rfl, _, rfl, rfl⟩
end Go.Proofs.Ytbimapbcpmeooaa.Cl
