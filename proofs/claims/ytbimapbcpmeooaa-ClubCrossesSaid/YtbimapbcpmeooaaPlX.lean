/- The reference's Cross. -/
/- An exchange as the program and as the reference have it: the same errors, the same tables. Pure. -/
import Derived.Test.YtbimapbcpmeooaaPlW
namespace Go.Proofs.Ytbimapbcpmeooaa.Cl
open Go Go.Proofs.Ytbimapbcpmeooaa Go.Proofs.Ytbimapbcpmeooaa.AX
set_option maxRecDepth 100000
set_option linter.unusedVariables false
/-- The tables that stay. -/
def rstF (i j : Nat) : Nat → List Ti → List Ti
  | _, [] => []
  | k, p :: R => if k ≠ i ∧ k ≠ j then p :: rstF i j (k + 1) R else rstF i j (k + 1) R
def crR (T : List Ti) (i j : Nat) (t : Bool) : List Ti := match T[i]?, T[j]? with
  | some (a, b), some (c, d) => [(a, if t then d else c), (b, if t then c else d)] ++ rstF i j 0 T
  | _, _ => []
def crF (n : Int) (T : List Ti) (i j : Int) (t : Bool) : Int :=
  if errP n T ≠ 0 then errP n T else
  if i < 0 ∨ (T.length : Int) ≤ i ∨ j < 0 ∨ (T.length : Int) ≤ j then 2 else
  match T[i.toNat]?, T[j.toNat]? with
  | some (a, b), some (c, d) => if shB a b c d then 5 else if hasT T a (if t then d else c) || hasT T b (if t then c else d) then 6 else 0
  | _, _ => 2
theorem row32_2 (H : AH) (a x b y : Int) : rowV Try.prog 32 2 [(0, .agg [.int .i64 a, .int .i64 x]), (1, .agg [.int .i64 b, .int .i64 y])] H = some (some (.slice (some H.length) 0 2 0 2 false), H ++ [.row [.int .i64 a, .int .i64 x, .int .i64 b, .int .i64 y] 0 4 false]) := by kernel_rfl
set_option maxHeartbeats 1000000 in
theorem CrossR_ac (n : Int) (T : List Ti) (v : AV) (i j : Int) (t : Bool) (hT : T.length ≤ 1000000) (H : AH) (hv : Rs 2 H v (ti T)) (Q : AV → AH → Prop) (hb : crF n T i j t ≠ 0 → ∀ H', Ext H H' → Q (.tuple [zeroPlan, .int .i64 (crF n T i j t)]) H')
    (hg : crF n T i j t = 0 → ∀ u H', Rs 2 H' u (ti (tabG (fun a b => hasT (crR T i.toNat j.toNat t) a b != false) n.toNat n.toNat 0)) → Ext H H' → Q (.tuple [.agg [.int .i64 n, u], .int .i64 0]) H') : AC Try.prog 40 [.agg [.int .i64 n, v], .int .i64 i, .int .i64 j, .bool t] H Q := by
  have hu1 := rs_one hv
  obtain ⟨I37, i37, z37⟩ := zeroT_some zt37
  refine L_body 136 Try.func40 rfl rfl ?_
  refine L_reg [1, 2, 3, 4, 8] (fun K hK => ?_)
  simp [AV.isU, acells, i37, z37]
  apply hK; clear hK K
  change AWL _ _ _ _ (H ++ [AObj.row [.int .i64 n, v] 0 0 false, .row [.int .i64 0, .slice none 0 0 0 1 false] 0 0 false]) _
  have hE : Ext H (H ++ [AObj.row [.int .i64 n, v] 0 0 false, .row [.int .i64 0, .slice none 0 0 0 1 false] 0 0 false]) := .push _ _
  have r1 : (H ++ [AObj.row [.int .i64 n, v] 0 0 false, .row [.int .i64 0, .slice none 0 0 0 1 false] 0 0 false])[H.length]? = some (.row [.int .i64 n, v] 0 0 false) := by simp
  have r2 : (H ++ [AObj.row [.int .i64 n, v] 0 0 false, .row [.int .i64 0, .slice none 0 0 0 1 false] 0 0 false])[H.length + 1]? = some (.row [.int .i64 0, .slice none 0 0 0 1 false] 0 0 false) := by simp
  generalize H ++ [AObj.row [.int .i64 n, v] 0 0 false, .row [.int .i64 0, .slice none 0 0 0 1 false] 0 0 false] = HA at *
  have l1 := ld_two (u := 37) ag37 r1 rfl hu1
  rw [ld37] at l1
  have e1 : ld HA H.length 0 0 = some (.int .i64 n) := by rw [ld_row r1]; rfl
  have e3 : ld HA H.length 1 0 = some v := by rw [ld_row r1]; exact known_one hu1
  have hvA := hv.ext hE
  have hvl := ri_len hv
  have b37 : aBuilt Try.prog 37 [] = some [.int .i64 0, .slice none 0 0 0 1 false] := by kernel_rfl
  have fin : ∀ (HX : AH) (x : Int) (u : AV), u.one = true → Ext HA HX → storeV Try.prog 37 HX (.ptr (H.length + 1) 0 0) (.agg [.int .i64 x, u]) = some (none, HX.set (H.length + 1) (.row [.int .i64 x, u] 0 0 false)) ∧ loadV Try.prog 37 (HX.set (H.length + 1) (.row [.int .i64 x, u] 0 0 false)) (.ptr (H.length + 1) 0 0) = some (.agg [.int .i64 x, u]) ∧ Ext H (HX.set (H.length + 1) (.row [.int .i64 x, u] 0 0 false)) := by
    intro HX x u hu hX
    have k := hX.row r2
    exact ⟨st_two (u := 37) ag37 k (by simp) (by simp) rfl hu, ld_two (u := 37) ag37 (get_set k) rfl hu, (hE.trans hX).set _ (by omega)⟩
  have bad : ∀ e : Int, crF n T i j t = e → e ≠ 0 → ∀ HX, Ext HA HX → Q (.tuple [zeroPlan, .int .i64 e]) (HX.set (H.length + 1) (.row [.int .i64 0, .slice none 0 0 0 1 false] 0 0 false)) := fun e he hn HX hX => by
    have := hb (by rw [he]; exact hn) _ (fin HX 0 (.slice none 0 0 0 1 false) rfl hX).2.2
    rwa [he] at this
  refine L_reg [1, 2, 3, 4, 8, 10] (fun K hK => ?_)
  simp [okFn_low, l1]
  refine CheckR_ac n T v hT _ hvA _ (fun H1 hE1 => ?_)
  simp
  apply hK; clear hK K
  have e3a := hE1.ld e3
  obtain ⟨k1, k2, k3⟩ := fin H1 0 (.slice none 0 0 0 1 false) rfl hE1
  by_cases c0 : errP n T ≠ 0
  · have c0' : (errP n T == 0) = false := beq_eq_false_iff_ne.2 c0
    refine L_reg [1, 2, 3, 4, 8, 10, 38] (fun K hK => ?_)
    simp [c0', pickV]
    apply hK; clear hK K
    refine L_false rfl ?_
    refine L_reg [1, 2, 3, 4, 8, 10, 40] (fun K hK => ?_)
    simp
    apply hK; clear hK K
    refine L_true (by simp [bne0, c0]) ?_
    refine L_reg [8, 9] (fun K hK => ?_)
    simp [b37, k1]
    apply hK; clear hK K
    exact L_ret ⟨.inr rfl, _, res21 rfl k2 rfl, bad _ (by unfold crF; rw [if_pos c0]) c0 _ hE1⟩
  have two : (i < 0 ∨ (T.length : Int) ≤ i ∨ j < 0 ∨ (T.length : Int) ≤ j) → crF n T i j t = 2 := fun h => by unfold crF; rw [if_neg c0, if_pos h]
  have hP0 : errP n T = 0 := Classical.not_not.1 c0
  have ia := fun Q h => in_ac i 0 ((T.length : Int) - 1) H1 Q h
  have ib := fun Q h => in_ac j 0 ((T.length : Int) - 1) H1 Q h
  simp only [okR] at ia ib
  rw [hP0]
  by_cases c1' : okS T.length i = false
  · rw [c1'] at ia
    refine L_reg [1, 2, 3, 4, 8, 10, 38] (fun K hK => ?_)
    simp [okFn_low, e3a, hvl, wrap_i64 (a := (T.length : Int) - 1) (by omega)]
    refine ia _ ?_
    simp [pickV]
    apply hK; clear hK K
    refine L_true rfl ?_
    refine L_reg [1, 2, 3, 4, 8, 10] (fun K hK => ?_)
    simp
    apply hK; clear hK K
    refine L_reg [1, 2, 3, 4, 8, 10, 40] (fun K hK => ?_)
    simp
    apply hK; clear hK K
    refine L_true rfl ?_
    refine L_reg [8, 9] (fun K hK => ?_)
    simp [b37, k1]
    apply hK; clear hK K
    exact L_ret ⟨.inr rfl, _, res21 rfl k2 rfl, bad 2 (two (by simp [okS] at c1'; omega)) (by decide) _ hE1⟩
  have c1 : okS T.length i = true := by simpa using c1'
  rw [c1] at ia
  by_cases c2' : okS T.length j = false
  · rw [c2'] at ib
    refine L_reg [1, 2, 3, 4, 8, 10, 38] (fun K hK => ?_)
    simp [okFn_low, e3a, hvl, wrap_i64 (a := (T.length : Int) - 1) (by omega)]
    refine ia _ ?_
    simp [okFn_low, e3a, hvl, wrap_i64 (a := (T.length : Int) - 1) (by omega)]
    refine ib _ ?_
    simp [pickV]
    apply hK; clear hK K
    refine L_true rfl ?_
    refine L_reg [1, 2, 3, 4, 8, 10] (fun K hK => ?_)
    simp
    apply hK; clear hK K
    refine L_reg [1, 2, 3, 4, 8, 10, 40] (fun K hK => ?_)
    simp
    apply hK; clear hK K
    refine L_true rfl ?_
    refine L_reg [8, 9] (fun K hK => ?_)
    simp [b37, k1]
    apply hK; clear hK K
    exact L_ret ⟨.inr rfl, _, res21 rfl k2 rfl, bad 2 (two (by simp [okS] at c2'; omega)) (by decide) _ hE1⟩
  have c2 : okS T.length j = true := by simpa using c2'
  rw [c2] at ib
  refine L_reg [1, 2, 3, 4, 8, 10, 38] (fun K hK => ?_)
  simp [okFn_low, e3a, hvl, wrap_i64 (a := (T.length : Int) - 1) (by omega)]
  refine ia _ ?_
  simp [okFn_low, e3a, hvl, wrap_i64 (a := (T.length : Int) - 1) (by omega)]
  refine ib _ ?_
  simp [pickV]
  apply hK; clear hK K
  refine L_false rfl ?_
  refine L_reg [1, 2, 3, 4, 8, 10, 40] (fun K hK => ?_)
  simp
  apply hK; clear hK K
  refine L_false rfl ?_
  simp only [okS, Bool.and_eq_true, decide_eq_true_eq] at c1 c2
  clear ia ib two
  obtain ⟨i, rfl⟩ : ∃ m : Nat, i = m := ⟨i.toNat, by omega⟩
  obtain ⟨j, rfl⟩ : ∃ m : Nat, j = m := ⟨j.toNat, by omega⟩
  have hi : i < T.length := by omega
  have hj : j < T.length := by omega
  obtain ⟨p1, q1, v1, x1, f11, f12, -⟩ := ri_ix (hvA.ext hE1) hi
  obtain ⟨p2, q2, v2, x2, f21, f22, -⟩ := ri_ix (hvA.ext hE1) hj
  have gi : T[i]? = some T[i] := List.getElem?_eq_getElem hi
  have gj : T[j]? = some T[j] := List.getElem?_eq_getElem hj
  generalize T[i] = p at f11 f12 gi
  generalize T[j] = q at f21 f22 gj
  obtain ⟨a, b⟩ := p
  obtain ⟨c, d⟩ := q
  have ok := errP_ok hP0
  have hcr : crF n T i j t = if shB a b c d then 5 else if hasT T a (if t then d else c) || hasT T b (if t then c else d) then 6 else 0 := by
    unfold crF
    rw [if_neg c0, if_neg (by omega)]
    simp only [Int.toNat_natCast, gi, gj]
  have hcl : crR T i j t = [(a, if t then d else c), (b, if t then c else d)] ++ rstF i j 0 T := by
    unfold crR
    simp only [gi, gj]
  simp only [Int.toNat_natCast] at hg
  refine L_regT mixed [1, 2, 3, 4, 8, 11, 12] (by kernel_rfl) (fun K hK => ?_)
  simp [e3a, x1, f11, f12]
  apply hK; clear hK K
  refine L_regT mixed [1, 2, 3, 4, 8, 11, 12, 13, 14] (by kernel_rfl) (fun K hK => ?_)
  simp [e3a, x2, f21, f22]
  apply hK; clear hK K
  have five : shB a b c d = true → crF n T i j t = 5 := fun h => by rw [hcr, if_pos h]
  by_cases d1 : a = c
  · refine L_reg [1, 2, 3, 4, 8, 11, 12, 13, 14, 84] (fun K hK => ?_)
    simp [d1, pickV]
    apply hK; clear hK K
    refine L_true rfl ?_
    refine L_reg [8, 9] (fun K hK => ?_)
    simp [b37, k1]
    apply hK; clear hK K
    exact L_ret ⟨.inr rfl, _, res21 rfl k2 rfl, bad 5 (five (by simp [shB, d1])) (by decide) _ hE1⟩
  have d1' : (a == c) = false := beq_eq_false_iff_ne.2 d1
  by_cases d2 : a = d
  · refine L_reg [1, 2, 3, 4, 8, 11, 12, 13, 14, 84] (fun K hK => ?_)
    simp [d2 ▸ d1', d2, pickV]
    apply hK; clear hK K
    refine L_true rfl ?_
    refine L_reg [8, 9] (fun K hK => ?_)
    simp [b37, k1]
    apply hK; clear hK K
    exact L_ret ⟨.inr rfl, _, res21 rfl k2 rfl, bad 5 (five (by simp [shB, d2])) (by decide) _ hE1⟩
  have d2' : (a == d) = false := beq_eq_false_iff_ne.2 d2
  by_cases d3 : b = c
  · refine L_reg [1, 2, 3, 4, 8, 11, 12, 13, 14, 84] (fun K hK => ?_)
    simp [d1', d2', d3, pickV]
    apply hK; clear hK K
    refine L_true rfl ?_
    refine L_reg [8, 9] (fun K hK => ?_)
    simp [b37, k1]
    apply hK; clear hK K
    exact L_ret ⟨.inr rfl, _, res21 rfl k2 rfl, bad 5 (five (by simp [shB, d3])) (by decide) _ hE1⟩
  have d3' : (b == c) = false := beq_eq_false_iff_ne.2 d3
  by_cases d4 : b = d
  · refine L_reg [1, 2, 3, 4, 8, 11, 12, 13, 14, 84] (fun K hK => ?_)
    simp [d1', d2', d4 ▸ d3', d4, pickV]
    apply hK; clear hK K
    refine L_true rfl ?_
    refine L_reg [8, 9] (fun K hK => ?_)
    simp [b37, k1]
    apply hK; clear hK K
    exact L_ret ⟨.inr rfl, _, res21 rfl k2 rfl, bad 5 (five (by simp [shB, d4])) (by decide) _ hE1⟩
  have d4' : (b == d) = false := beq_eq_false_iff_ne.2 d4
  refine L_reg [1, 2, 3, 4, 8, 11, 12, 13, 14, 84] (fun K hK => ?_)
  simp [d1', d2', d3', d4', pickV]
  apply hK; clear hK K
  refine L_false rfl ?_
  rw [if_neg (by simp [shB, d1, d2, d3, d4])] at hcr
  obtain ⟨x, hx⟩ : ∃ x, (if t then d else c) = x := ⟨_, rfl⟩
  obtain ⟨y, hy⟩ : ∃ y, (if t then c else d) = y := ⟨_, rfl⟩
  rw [hx, hy] at hcl hcr
  clear five
  refine L_reg [1, 2, 4, 8, 11, 12, 13, 14, 86] (fun K hK => ?_)
  simp
  apply hK; clear hK K
  refine L_condK [1, 2, 4, 8, 11, 12, 13, 14] (fun e' H' => e' = [(1, .int .i64 (i : Int)), (2, .int .i64 (j : Int)), (4, .ptr H.length 0 0), (8, .ptr (H.length + 1) 0 0), (11, .int .i64 a), (12, .int .i64 b), (13, .int .i64 x), (14, .int .i64 y)] ∧ H1 = H') (t := t) rfl (fun ht => ?_) (fun hf => ?_) ?_
  · subst ht
    simp only [if_true] at hx hy
    subst hx hy
    refine L_reg [1, 2, 4, 8, 11, 12, 13, 14] (fun K hK => ?_)
    simp
    apply hK; clear hK K
    exact ⟨by simp, rfl⟩
  · subst hf
    simp only [Bool.false_eq_true, if_false] at hx hy
    subst hx hy
    exact ⟨by simp, rfl⟩
  rintro _ _ ⟨rfl, rfl⟩
  have ha := fun Q h => hasR_q T a x v hT H1 (hvA.ext hE1) Q h
  have hb' := fun Q h => hasR_q T b y v hT H1 (hvA.ext hE1) Q h
  by_cases g1 : hasT T a x = true
  · rw [g1] at ha
    refine L_reg [1, 2, 4, 8, 11, 12, 13, 14, 100] (fun K hK => ?_)
    simp [okFn_low, e3a]
    refine ha _ ?_
    simp [pickV]
    apply hK; clear hK K
    refine L_true rfl ?_
    refine L_reg [8, 9] (fun K hK => ?_)
    simp [b37, k1]
    apply hK; clear hK K
    exact L_ret ⟨.inr rfl, _, res21 rfl k2 rfl, bad 6 (by rw [hcr]; simp [g1]) (by decide) _ hE1⟩
  have g1' : hasT T a x = false := by simpa using g1
  rw [g1'] at ha
  by_cases g2 : hasT T b y = true
  · rw [g2] at hb'
    refine L_reg [1, 2, 4, 8, 11, 12, 13, 14, 100] (fun K hK => ?_)
    simp [okFn_low, e3a]
    refine ha _ ?_
    simp [okFn_low, e3a]
    refine hb' _ ?_
    simp [pickV]
    apply hK; clear hK K
    refine L_true rfl ?_
    refine L_reg [8, 9] (fun K hK => ?_)
    simp [b37, k1]
    apply hK; clear hK K
    exact L_ret ⟨.inr rfl, _, res21 rfl k2 rfl, bad 6 (by rw [hcr]; simp [g2]) (by decide) _ hE1⟩
  have g2' : hasT T b y = false := by simpa using g2
  rw [g2'] at hb'
  refine L_reg [1, 2, 4, 8, 11, 12, 13, 14, 100] (fun K hK => ?_)
  simp [okFn_low, e3a]
  refine ha _ ?_
  simp [okFn_low, e3a]
  refine hb' _ ?_
  simp [pickV]
  apply hK; clear hK K
  refine L_false rfl ?_
  have hz : crF n T i j t = 0 := by rw [hcr]; simp [g1', g2']
  refine L_reg [1, 2, 4, 8, 15] (fun K hK => ?_)
  simp [bd67, row32_2]
  apply hK; clear hK K
  have hB : Ext H1 (H1 ++ [AObj.row [.int .i64 a, .int .i64 x, .int .i64 b, .int .i64 y] 0 4 false]) := .push _ _
  have hO0 : OwnK 2 H1.length (H1 ++ [AObj.row [.int .i64 a, .int .i64 x, .int .i64 b, .int .i64 y] 0 4 false]) (.slice (some H1.length) 0 2 0 2 false) (ti [(a, x), (b, y)]) := ⟨ti_ok _, .inr ⟨H1.length, 0, 4, Nat.le_refl _, rfl, by simp [ti]⟩⟩
  have hlen := ok.len
  clear ha hb' k1 k2 k3 hb bad hcr
  generalize H1 ++ [AObj.row [.int .i64 a, .int .i64 x, .int .i64 b, .int .i64 y] 0 4 false] = H2 at *
  refine L_reg [1, 2, 4, 8, 15, 16] (fun K hK => ?_)
  simp
  apply hK; clear hK K
  refine L_block (L_loopV [15, 16] (fun q vs H' => ∃ (k : Nat) (u : AV) (A : List Ti), q = T.length - k ∧ k ≤ T.length ∧ A.length ≤ k + 2 ∧ vs = [u, .int .i64 k] ∧ Ext H1 H' ∧ OwnK 2 H1.length H' u (ti A) ∧ crR T i j t = A ++ rstF i j k (T.drop k)) _ [.slice (some H1.length) 0 2 0 2 false, .int .i64 (0 : Nat)] rfl ⟨0, _, [(a, x), (b, y)], rfl, by omega, by simp, rfl, hB, hO0, by rw [hcl]; simp⟩ ?_)
  rintro q _ H3 ⟨k, u, A, rfl, hk, hA, rfl, hE3, ho, hc⟩
  have e3c := (hE1.trans hE3).ld e3
  refine L_reg [1, 2, 4, 8, 15, 16, 113] (fun K hK => ?_)
  simp [e3c, hvl]
  apply hK; clear hK K
  refine L_dec (k < T.length) (by simp) (fun hlt => ?_) (fun hge => L_exit ?_)
  · refine L_block ?_
    obtain ⟨r', p', v', x1', -, -, y1'⟩ := ri_ix ((hvA.ext hE1).ext hE3) hlt
    rw [List.drop_eq_getElem_cons hlt, rstF] at hc
    generalize T[k] = p at y1' hc
    obtain ⟨x', y'⟩ := p
    by_cases s1 : k = i
    · rw [if_neg (by simp [s1])] at hc
      subst s1
      refine L_reg [1, 2, 4, 8, 15, 16, 123] (fun K hK => ?_)
      simp [pickV]
      apply hK; clear hK K
      refine L_false rfl ?_
      refine L_reg [1, 2, 4, 8, 15, 16] (fun K hK => ?_)
      simp [wrap_i64 (a := (k : Int) + 1) (by omega)]
      apply hK; clear hK K
      exact ⟨T.length - (k + 1), [u, .int .i64 (k + 1 : Nat)], by omega, by simp, k + 1, u, A, rfl, by omega, by omega, rfl, hE3, ho, hc⟩
    have s1' : ((k : Int) != (i : Int)) = true := by rw [bne_iff_ne]; omega
    by_cases s2 : k = j
    · rw [if_neg (by simp [s2])] at hc
      subst s2
      refine L_reg [1, 2, 4, 8, 15, 16, 123] (fun K hK => ?_)
      simp [s1', bne_self_eq_false, pickV]
      apply hK; clear hK K
      refine L_false (by simp) ?_
      refine L_reg [1, 2, 4, 8, 15, 16] (fun K hK => ?_)
      simp [wrap_i64 (a := (k : Int) + 1) (by omega)]
      apply hK; clear hK K
      exact ⟨T.length - (k + 1), [u, .int .i64 (k + 1 : Nat)], by omega, by simp, k + 1, u, A, rfl, by omega, by omega, rfl, hE3, ho, hc⟩
    have s2' : ((k : Int) != (j : Int)) = true := by rw [bne_iff_ne]; omega
    rw [if_pos ⟨s1, s2⟩] at hc
    refine L_reg [1, 2, 4, 8, 15, 16, 123] (fun K hK => ?_)
    simp [s1', s2', pickV]
    apply hK; clear hK K
    refine L_true (by simp) ?_
    obtain ⟨u', H4, happ, ho4, hE4⟩ := ownK_append hE3 ek32 ek32 (x := [.int .i64 x', .int .i64 y']) (m := 2) ho rfl (by simp [AV.one]) (by rw [ti_len]; omega)
    refine L_reg [1, 2, 4, 8, 15, 16] (fun K hK => ?_)
    simp [e3c, x1', y1', row32, happ]
    apply hK; clear hK K
    refine L_reg [1, 2, 4, 8, 15, 16] (fun K hK => ?_)
    simp [wrap_i64 (a := (k : Int) + 1) (by omega)]
    apply hK; clear hK K
    exact ⟨T.length - (k + 1), [u', .int .i64 (k + 1 : Nat)], by omega, by simp, k + 1, u', A ++ [(x', y')], rfl, by omega, by simp; omega, rfl, hE4, by rw [ti_app]; exact ho4, by rw [hc]; simp⟩
  · have e : k = T.length := by omega
    subst e
    rw [List.drop_length, rstF, List.append_nil] at hc
    have hn5 : H.length + 1 < HA.length := (List.getElem?_eq_some_iff.1 r2).1
    refine L_reg [8, 9] (fun K hK => ?_)
    simp [okFn_low, (hE1.trans hE3).ld e1]
    refine tidyR_ac n (by have := ok.lo; omega) ok.hi A u (by omega) false _ ho.rs _ (fun w H4 hw hE4 => ?_)
    have hE14 := (hE1.trans hE3).trans hE4
    have hn6 : H.length + 1 < H3.length := by have := (hE1.trans hE3).1; omega
    obtain ⟨k1, k2, k3⟩ := fin H4 n w (own_one hw) hE14
    simp [k1]
    apply hK; clear hK K
    exact L_ret ⟨.inr rfl, _, res21 rfl k2 rfl, hg hz w _ (by rw [hc]; exact (ownK_set hw hn6 _).rs) k3⟩
end Go.Proofs.Ytbimapbcpmeooaa.Cl
namespace Go.Proofs.Ytbimapbcpmeooaa.Cl
set_option linter.unusedVariables false
/-- Two tables have the same sorters. -/
def Sm (p q : Ti) : Prop := (p.1 = q.1 ∧ p.2 = q.2) ∨ (p.1 = q.2 ∧ p.2 = q.1)
theorem Sm.symm {p q : Ti} (h : Sm p q) : Sm q p := by unfold Sm at *; omega
theorem hasT_iff {L : List Ti} {p : Ti} : hasT L p.1 p.2 = true ↔ ∃ q ∈ L, Sm q p := by
  unfold hasT
  rw [List.any_eq_true]
  constructor
  · rintro ⟨q, hq, h⟩
    refine ⟨q, hq, ?_⟩
    simp at h
    unfold Sm; omega
  · rintro ⟨q, hq, h⟩
    refine ⟨q, hq, ?_⟩
    simp
    unfold Sm at h; omega
def NoD (T : List Ti) : Prop := ∀ (k l : Nat) (p q : Ti), T[k]? = some p → T[l]? = some q → k ≠ l → ¬ Sm p q
theorem NoD_cons {p : Ti} {R : List Ti} : NoD (p :: R) ↔ (∀ q ∈ R, ¬ Sm p q) ∧ NoD R := by
  constructor
  · intro h
    refine ⟨fun q hq => ?_, fun k l a b h1 h2 h3 => h (k + 1) (l + 1) a b (by simpa using h1) (by simpa using h2) (by omega)⟩
    obtain ⟨k, hk⟩ := List.mem_iff_getElem?.1 hq
    exact h 0 (k + 1) p q rfl (by simpa using hk) (by omega)
  · rintro ⟨h1, h2⟩ k l a b ha hb hkl
    cases k with
    | zero =>
      cases l with
      | zero => omega
      | succ l =>
        simp at ha hb; subst ha
        exact h1 b (List.mem_iff_getElem?.2 ⟨l, hb⟩)
    | succ k =>
      cases l with
      | zero =>
        simp at ha hb; subst hb
        exact fun h => h1 a (List.mem_iff_getElem?.2 ⟨k, ha⟩) h.symm
      | succ l => exact h2 k l a b (by simpa using ha) (by simpa using hb) (by omega)
theorem errT_or {n : Int} : ∀ (R L : List Ti), (∀ p ∈ R, okS n p.1 = true ∧ okS n p.2 = true ∧ p.1 ≠ p.2) → (errT n L R = 0 ∧ (∀ p ∈ R, ∀ q ∈ L, ¬ Sm q p) ∧ NoD R) ∨ (errT n L R = 6 ∧ ¬ ((∀ p ∈ R, ∀ q ∈ L, ¬ Sm q p) ∧ NoD R))
  | [], L, _ => .inl ⟨rfl, fun p hp => (by cases hp), fun k l p q h => (by simp at h)⟩
  | p :: R, L, h => by
    obtain ⟨h1, h2, h3⟩ := h p (by simp)
    rw [errT, if_pos ⟨h1, h2⟩, if_neg h3]
    by_cases c : hasT L p.1 p.2 = true
    · rw [if_pos c]
      obtain ⟨q, hq, hs⟩ := hasT_iff.1 c
      exact .inr ⟨rfl, fun hh => hh.1 p (by simp) q hq hs⟩
    · rw [if_neg c]
      have c' : ∀ q ∈ L, ¬ Sm q p := fun q hq hs => c (hasT_iff.2 ⟨q, hq, hs⟩)
      rcases errT_or R (L ++ [p]) (fun q hq => h q (by simp [hq])) with ⟨g1, g2, g3⟩ | ⟨g1, g2⟩
      · refine .inl ⟨g1, fun q hq r hr => ?_, NoD_cons.2 ⟨fun q hq => g2 q hq p (by simp), g3⟩⟩
        rcases List.mem_cons.1 hq with rfl | hq
        · exact c' r hr
        · exact g2 q hq r (by simp [hr])
      · refine .inr ⟨g1, fun hh => g2 ⟨fun q hq r hr => ?_, (NoD_cons.1 hh.2).2⟩⟩
        rcases List.mem_append.1 hr with hr | hr
        · exact hh.1 q (by simp [hq]) r hr
        · simp at hr; subst hr
          exact (NoD_cons.1 hh.2).1 q hq
theorem set2_get {T : List Ti} {i j : Nat} {p q : Ti} (hi : i < T.length) (hj : j < T.length) (k : Nat) : ((T.set i p).set j q)[k]? = if k = j then some q else if k = i then some p else T[k]? := by
  rw [List.getElem?_set, List.getElem?_set]
  by_cases c : k = j
  · subst c; simp [hj]
  · rw [if_neg (Ne.symm c), if_neg c]
    by_cases d : k = i
    · subst d; simp [hi]
    · rw [if_neg (Ne.symm d), if_neg d]
theorem mem_rstF {i j : Nat} {p : Ti} : ∀ {R : List Ti} {m : Nat}, p ∈ rstF i j m R ↔ ∃ k, R[k]? = some p ∧ m + k ≠ i ∧ m + k ≠ j
  | [], m => by simp [rstF]
  | q :: R, m => by
    rw [rstF]
    have ih := mem_rstF (i := i) (j := j) (p := p) (R := R) (m := m + 1)
    constructor
    · intro h
      have h' : (p = q ∧ m ≠ i ∧ m ≠ j) ∨ p ∈ rstF i j (m + 1) R := by
        split at h
        · rcases List.mem_cons.1 h with h | h
          · exact .inl ⟨h, by assumption⟩
          · exact .inr h
        · exact .inr h
      rcases h' with ⟨rfl, h1, h2⟩ | h
      · exact ⟨0, rfl, by omega, by omega⟩
      · obtain ⟨k, h1, h2, h3⟩ := ih.1 h
        exact ⟨k + 1, by simpa using h1, by omega, by omega⟩
    · rintro ⟨k, h1, h2, h3⟩
      cases k with
      | zero =>
        simp at h1; subst h1
        rw [if_pos ⟨by omega, by omega⟩]; simp
      | succ k =>
        have := ih.2 ⟨k, by simpa using h1, by omega, by omega⟩
        split
        · exact List.mem_cons_of_mem _ this
        · exact this
theorem hasT_congr {L M : List Ti} (h : ∀ p, p ∈ L ↔ p ∈ M) (a b : Int) : hasT L a b = hasT M a b := by
  rw [Bool.eq_iff_iff]
  have e1 := hasT_iff (L := L) (p := (a, b))
  have e2 := hasT_iff (L := M) (p := (a, b))
  simp only at e1 e2
  rw [e1, e2]
  exact exists_congr fun q => and_congr_left fun _ => h q
/-- The exchange: its error is the same, and so are its tables. -/
theorem cross_eq (n : Int) (T : List Ti) (i j : Int) (t : Bool) : crE n T i j t = crF n T i j t ∧ (crF n T i j t = 0 → ∀ a b, hasT (crL T i.toNat j.toNat t) a b = hasT (crR T i.toNat j.toNat t) a b) := by
  unfold crE crF
  by_cases c0 : errP n T ≠ 0
  · rw [if_pos c0, if_pos c0]; exact ⟨rfl, fun h => absurd h c0⟩
  rw [if_neg c0, if_neg c0]
  by_cases c1 : i < 0 ∨ (T.length : Int) ≤ i ∨ j < 0 ∨ (T.length : Int) ≤ j
  · rw [if_pos c1, if_pos c1]; exact ⟨rfl, fun h => by cases h⟩
  rw [if_neg c1, if_neg c1]
  obtain ⟨i, rfl⟩ : ∃ m : Nat, i = m := ⟨i.toNat, by omega⟩
  obtain ⟨j, rfl⟩ : ∃ m : Nat, j = m := ⟨j.toNat, by omega⟩
  simp only [Int.toNat_natCast]
  have hi : i < T.length := by omega
  have hj : j < T.length := by omega
  have gi : T[i]? = some T[i] := List.getElem?_eq_getElem hi
  have gj : T[j]? = some T[j] := List.getElem?_eq_getElem hj
  have mi : T[i] ∈ T := List.getElem_mem _
  have mj : T[j] ∈ T := List.getElem_mem _
  generalize T[i] = p at gi mi
  generalize T[j] = q at gj mj
  obtain ⟨a, b⟩ := p
  obtain ⟨c, d⟩ := q
  have hP0 : errP n T = 0 := Classical.not_not.1 c0
  have ok := errP_ok hP0
  simp only [gi, gj]
  by_cases c2 : shB a b c d = true
  · rw [if_pos c2, if_pos c2]; exact ⟨rfl, fun h => by cases h⟩
  rw [if_neg c2, if_neg c2]
  have hcl : crL T i j t = (T.set i (a, if t then d else c)).set j (b, if t then c else d) := by
    unfold crL
    simp only [gi, gj]
    cases t <;> rfl
  have hcR : crR T i j t = [(a, if t then d else c), (b, if t then c else d)] ++ rstF i j 0 T := by
    unfold crR
    simp only [gi, gj]
  obtain ⟨x, hx⟩ : ∃ x, (if t then d else c) = x := ⟨_, rfl⟩
  obtain ⟨y, hy⟩ : ∃ y, (if t then c else d) = y := ⟨_, rfl⟩
  rw [hx, hy] at hcl hcR
  rw [hx, hy, hcl, hcR]
  have hxy : (x = c ∧ y = d) ∨ (x = d ∧ y = c) := by cases t <;> simp at hx hy <;> simp [hx, hy]
  have hne : a ≠ c ∧ a ≠ d ∧ b ≠ c ∧ b ≠ d := by
    refine ⟨?_, ?_, ?_, ?_⟩ <;> (intro e; apply c2; simp [shB, e])
  have ra := ok.rg _ mi
  have rc := ok.rg _ mj
  simp only at ra rc
  have hij : i ≠ j := fun e => by subst e; rw [gi] at gj; cases gj; exact hne.1 rfl
  have hmem : ∀ p, p ∈ (T.set i (a, x)).set j (b, y) ↔ p ∈ [(a, x), (b, y)] ++ rstF i j 0 T := by
    intro p
    rw [List.mem_iff_getElem?, List.mem_append, mem_rstF]
    constructor
    · rintro ⟨k, hk⟩
      rw [set2_get hi hj] at hk
      split at hk
      · left; cases hk; simp
      · split at hk
        · left; cases hk; simp
        · right; exact ⟨k, hk, by omega, by omega⟩
    · rintro (h | ⟨k, h1, h2, h3⟩)
      · simp at h
        rcases h with rfl | rfl
        · exact ⟨i, by rw [set2_get hi hj, if_neg hij, if_pos rfl]⟩
        · exact ⟨j, by rw [set2_get hi hj, if_pos rfl]⟩
      · exact ⟨k, by rw [set2_get hi hj, if_neg (by omega), if_neg (by omega)]; exact h1⟩
  refine ⟨?_, fun _ a' b' => hasT_congr hmem a' b'⟩
  -- the error
  have okT : ∀ p ∈ T, okS n p.1 = true ∧ okS n p.2 = true ∧ p.1 ≠ p.2 := fun p hp => by
    have := ok.rg p hp
    simp [okS]; omega
  have hE : errP n ((T.set i (a, x)).set j (b, y)) = errT n [] ((T.set i (a, x)).set j (b, y)) := by
    unfold errP
    rw [if_pos ⟨ok.lo, ok.hi⟩, if_neg (by simp; exact ok.len)]
  have h0 : errT n [] T = 0 := by
    have := hP0
    unfold errP at this
    rwa [if_pos ⟨ok.lo, ok.hi⟩, if_neg (by have := ok.len; omega)] at this
  have nd : NoD T := by
    rcases errT_or T [] okT with ⟨-, -, h⟩ | ⟨h, -⟩
    · exact h
    · rw [h0] at h; cases h
  have okT' : ∀ p ∈ (T.set i (a, x)).set j (b, y), okS n p.1 = true ∧ okS n p.2 = true ∧ p.1 ≠ p.2 := fun p hp => by
    rw [hmem, List.mem_append, mem_rstF] at hp
    rcases hp with h | ⟨k, h1, -, -⟩
    · simp at h
      rcases h with rfl | rfl <;> (simp [okS]; omega)
    · exact okT p (List.mem_iff_getElem?.2 ⟨k, h1⟩)
  have n1 : ∀ p, p = (a, b) ∨ p = (c, d) ∨ p = (b, y) → ¬ Sm p (a, x) := by
    rintro p (rfl | rfl | rfl) <;> (unfold Sm; simp only; omega)
  have n2 : ∀ p, p = (a, b) ∨ p = (c, d) ∨ p = (a, x) → ¬ Sm p (b, y) := by
    rintro p (rfl | rfl | rfl) <;> (unfold Sm; simp only; omega)
  have key : NoD ((T.set i (a, x)).set j (b, y)) ↔ ¬ (hasT T a x = true) ∧ ¬ (hasT T b y = true) := by
    have q1 := hasT_iff (L := T) (p := (a, x))
    have q2 := hasT_iff (L := T) (p := (b, y))
    simp only at q1 q2
    rw [q1, q2]
    constructor
    · intro h
      constructor
      · rintro ⟨p, hp, hs⟩
        obtain ⟨k, hk⟩ := List.mem_iff_getElem?.1 hp
        by_cases e1 : k = i
        · subst e1; rw [gi] at hk; cases hk; exact n1 _ (.inl rfl) hs
        by_cases e2 : k = j
        · subst e2; rw [gj] at hk; cases hk; exact n1 _ (.inr (.inl rfl)) hs
        exact h k i p (a, x) (by rw [set2_get hi hj, if_neg e2, if_neg e1]; exact hk) (by rw [set2_get hi hj, if_neg hij, if_pos rfl]) e1 hs
      · rintro ⟨p, hp, hs⟩
        obtain ⟨k, hk⟩ := List.mem_iff_getElem?.1 hp
        by_cases e1 : k = i
        · subst e1; rw [gi] at hk; cases hk; exact n2 _ (.inl rfl) hs
        by_cases e2 : k = j
        · subst e2; rw [gj] at hk; cases hk; exact n2 _ (.inr (.inl rfl)) hs
        exact h k j p (b, y) (by rw [set2_get hi hj, if_neg e2, if_neg e1]; exact hk) (by rw [set2_get hi hj, if_pos rfl]) e2 hs
    · rintro ⟨h1, h2⟩ k l p q hk hl hkl hs
      rw [set2_get hi hj] at hk hl
      have m : ∀ {k : Nat} {p : Ti}, T[k]? = some p → p ∈ T := fun h => List.mem_iff_getElem?.2 ⟨_, h⟩
      split at hk
      · cases hk
        split at hl
        · omega
        · split at hl
          · cases hl; exact n1 _ (.inr (.inr rfl)) hs
          · exact h2 ⟨q, m hl, hs.symm⟩
      · split at hk
        · cases hk
          split at hl
          · cases hl; exact n2 _ (.inr (.inr rfl)) hs
          · split at hl
            · omega
            · exact h1 ⟨q, m hl, hs.symm⟩
        · split at hl
          · cases hl; exact h2 ⟨p, m hk, hs⟩
          · split at hl
            · cases hl; exact h1 ⟨p, m hk, hs⟩
            · exact nd k l p q hk hl hkl hs
  rw [hE]
  rcases errT_or _ [] okT' with ⟨g1, -, g3⟩ | ⟨g1, g2⟩
  · obtain ⟨h1, h2⟩ := key.1 g3
    rw [g1, if_neg (by simp [h1, h2])]
  · have : ¬ (¬ (hasT T a x = true) ∧ ¬ (hasT T b y = true)) := fun h => g2 ⟨fun p hp q hq => (by cases hq), key.2 h⟩
    rw [g1, if_pos (by cases e1 : hasT T a x <;> cases e2 : hasT T b y <;> simp_all)]
end Go.Proofs.Ytbimapbcpmeooaa.Cl
