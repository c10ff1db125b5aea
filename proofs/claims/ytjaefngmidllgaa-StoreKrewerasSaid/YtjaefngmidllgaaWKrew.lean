/- Flat divisions and those of their gaps are one for one: the walk. -/
import Derived.Test.YtjaefngmidllgaaVisK2
import Derived.Test.YtjaefngmidllgaaFltP
import Derived.Test.YtjaefngmidllgaaWorks
namespace Go.Proofs.Ytjaefngmidllgaa.St
open Go Go.Proofs.Ytjaefngmidllgaa Go.Proofs.Ytjaefngmidllgaa.AX
set_option maxRecDepth 100000
set_option linter.unusedVariables false
section
variable {P : Program} {nt : Nat} {ops : Array Oper}
/-- The first operations are stepped, the others as one likes. -/
theorem AO_app {m : List Oper} {Q : Env → AH → Prop} : ∀ {l : List Oper} {e : Env} {H : AH}, wpO P nt ops l e H (fun e1 H1 => AO P nt ops m e1 H1 Q) → AO P nt ops (l ++ m) e H Q
  | [], e, H, h => h
  | o :: rest, e, H, h => by
    rw [List.cons_append]
    simp only [wpO] at h
    cases hw : wantedT ops e o with
    | none => rw [hw] at h; exact h.elim
    | some b =>
      rw [hw] at h
      cases b with
      | false => exact AO_skipT hw (AO_app (h.2 rfl))
      | true =>
        have hw := wantedT_true hw
        obtain ⟨hd, h⟩ := h.1 rfl
        split at h
        · unfold callT at h
          split at h
          · rename_i r args hy
            refine AO_yield hw hy hd ?_
            obtain ⟨pe, L, q1, q2, q3, q4⟩ := h
            refine ⟨pe, L, q1, q2, q3, q4.mono ?_⟩
            rintro x e1 H2 ⟨q5, pe1, L1, q6, q7⟩
            refine ⟨q5, pe1, L1, q6, q7.mono ?_⟩
            rintro x2 e2 H3 ⟨s2, pe2, L2, q8, q9⟩
            exact ⟨s2, pe2, L2, q8, AO_app q9⟩
          · cases hc : opCall P (oval e) o.op with
            | none => rw [hc] at h; exact h.elim
            | some x =>
              obtain ⟨f, args⟩ := x
              rw [hc] at h
              exact AO_call hw hc hd (AC.mono h fun _ _ hk => AO_app hk)
        · cases hx : execN P (oval e) H o.op with
          | none => rw [hx] at h; exact h.elim
          | some x =>
            obtain ⟨v, H'⟩ := x
            rw [hx] at h
            exact AO_op hw hx hd (AO_app h)
theorem AO_cut (n : Nat) {l : List Oper} {e : Env} {H : AH} {Q : Env → AH → Prop} (h : wpO P nt ops (l.take n) e H (fun e1 H1 => AO P nt ops (l.drop n) e1 H1 Q)) : AO P nt ops l e H Q := by
  have := AO_app h
  rwa [List.take_append_drop] at this
end
theorem remN2 (a b : Nat) : ((a : Int)).tmod (b : Int) = ((a % b : Nat) : Int) := by
  rw [Int.tmod_eq_emod_of_nonneg (Int.natCast_nonneg _)]; simp
set_option maxHeartbeats 4000000 in
theorem kreweras_ac (x : Nat) (hx : x < 256) (H : AH) : AC Try.prog 6 [.int .u8 x] H fun v _ => v = .bool true := by
  refine L_body 41 Try.func6 rfl rfl ?_
  have q1 : (x : Int).tmod 6 = ((x % 6 : Nat) : Int) := remN2 x 6
  have lx := Nat.mod_lt x (show 0 < 6 by decide)
  obtain ⟨z, hz⟩ : ∃ z, x % 6 = z := ⟨_, rfl⟩
  rw [hz] at q1 lx
  obtain ⟨n, hn⟩ : ∃ n, z + 1 = n := ⟨_, rfl⟩
  have wn : IntKind.i64.wrap (1 + (z : Int)) = (n : Int) := by rw [wrap_i64 (by omega)]; omega
  obtain ⟨I3, hI3, hz3⟩ := zeroT_some zt3
  obtain ⟨I4, hI4, hz4⟩ := zeroT_some zt4
  obtain ⟨I41, hI41, hz41⟩ := zeroT_some zt41
  have s3 : ∀ (G : AH) (y : Int), storeV Try.prog 3 (G ++ [AObj.row [.int .i64 0] 0 0 false]) (.ptr G.length 0 0) (.int .i64 y) = some (none, G ++ [AObj.row [.int .i64 y] 0 0 false]) := fun G y => by
    rw [store_row (c := [.int .i64 0]) (y := .int .i64 0) (s := 0) sc3 rfl (by simp) rfl]; simp
  have s4 : ∀ (G : AH) (y : Bool), storeV Try.prog 4 (G ++ [AObj.row [.bool false] 0 0 false]) (.ptr G.length 0 0) (.bool y) = some (none, G ++ [AObj.row [.bool y] 0 0 false]) := fun G y => by
    rw [store_row (c := [.bool false]) (y := .bool false) (s := 0) sc4 rfl (by simp) rfl]; simp
  refine L_reg [0] (fun K hK => ?_)
  simp
  apply hK; clear hK K
  refine L_reg [3] (fun K hK => ?_)
  simp [wrap_i64 (a := (x : Int)) (by omega), q1, wn, hI3, hz3, s3]
  apply hK; clear hK K
  obtain ⟨pn, hpn⟩ : ∃ pn, H.length = pn := ⟨_, rfl⟩
  have rn : (H ++ [AObj.row [.int .i64 (n : Int)] 0 0 false])[pn]? = some (.row [.int .i64 (n : Int)] 0 0 false) := by rw [← hpn]; simp
  have l1 : (H ++ [AObj.row [.int .i64 (n : Int)] 0 0 false]).length = pn + 1 := by simp [hpn]
  rw [hpn]
  generalize H ++ [AObj.row [.int .i64 (n : Int)] 0 0 false] = H1 at rn l1 ⊢
  refine L_reg [3, 4] (fun K hK => ?_)
  simp [hI3, hz3, s3]
  apply hK; clear hK K
  have e2 : Ext H1 (H1 ++ [AObj.row [.int .i64 0] 0 0 false]) := .push _ _
  have rc : (H1 ++ [AObj.row [AV.int .i64 0] 0 0 false])[pn + 1]? = some (.row [.int .i64 0] 0 0 false) := by rw [← l1]; simp
  have rn := e2.row rn
  have l2 : (H1 ++ [AObj.row [AV.int .i64 0] 0 0 false]).length = pn + 2 := by simp [l1]
  rw [l1]
  generalize H1 ++ [AObj.row [AV.int .i64 0] 0 0 false] = H2 at e2 rc rn l2 ⊢
  refine L_reg [3, 4, 5] (fun K hK => ?_)
  simp [hI4, hz4, s4]
  apply hK; clear hK K
  have e3 : Ext H2 (H2 ++ [AObj.row [.bool true] 0 0 false]) := .push _ _
  have rg' : (H2 ++ [AObj.row [AV.bool true] 0 0 false])[pn + 2]? = some (.row [.bool true] 0 0 false) := by rw [← l2]; simp
  have rn := e3.row rn
  have rc := e3.row rc
  have l3 : (H2 ++ [AObj.row [AV.bool true] 0 0 false]).length = pn + 3 := by simp [l2]
  rw [l2]
  generalize H2 ++ [AObj.row [AV.bool true] 0 0 false] = H3 at e3 rc rn rg' l3 ⊢
  have hmk : aMapMake Try.prog 41 none H3 = some (some (.map H3.length), H3 ++ [AObj.map (mapS [])]) := by simp [aMapMake, mt41, mapS]
  have s41 : ∀ (G : AH) (y : Nat), storeV Try.prog 41 (G ++ [AObj.map (mapS []), AObj.row [.nilmap] 0 0 false]) (.ptr (G.length + 1) 0 0) (.map y) = some (none, G ++ [AObj.map (mapS []), AObj.row [.map y] 0 0 false]) := fun G y => by
    rw [store_row (c := [.nilmap]) (y := .nilmap) (s := 0) sc41 rfl (by simp) rfl]; simp
  refine L_reg [3, 4, 5, 6] (fun K hK => ?_)
  simp [hmk, hI41, hz41, s41]
  apply hK; clear hK K
  have e4 : Ext H3 (H3 ++ [AObj.map (mapS []), AObj.row [.map (pn + 3)] 0 0 false]) := .push _ _
  have rr : (H3 ++ [AObj.map (mapS []), AObj.row [AV.map (pn + 3)] 0 0 false])[pn + 3]? = some (.map (mapS [])) := by rw [← l3]; simp
  have rm : (H3 ++ [AObj.map (mapS []), AObj.row [AV.map (pn + 3)] 0 0 false])[pn + 4]? = some (.row [.map (pn + 3)] 0 0 false) := by rw [show pn + 4 = H3.length + 1 by omega]; simp
  have rn := e4.row rn
  have rc := e4.row rc
  have rg' := e4.row rg'
  have l4 : (H3 ++ [AObj.map (mapS []), AObj.row [AV.map (pn + 3)] 0 0 false]).length = pn + 5 := by simp [l3]
  rw [l3]
  generalize H3 ++ [AObj.map (mapS []), AObj.row [AV.map (pn + 3)] 0 0 false] = H4 at e4 rc rn rr rm rg' l4 ⊢
  have hV := visK_ok (pn + 2) (pn + 1) pn (pn + 4) (pn + 3) n (pn + 5) (by omega) (by omega) (by omega) (by omega) (by omega) (by omega) (by omega) (by omega) (by omega) (by omega) (by omega) (by omega) (by omega) (by omega)
  have ln4 : ld H4 pn 0 0 = some (.int .i64 (n : Nat)) := by rw [ld_row rn]; rfl
  refine L_reg [3, 4, 5, 6] (fun K hK => ?_)
  simp [okFn_low, ln4]
  refine all_ac hV (by omega) (true, 0, []) H4 _ (by omega) ⟨⟨0, rg'⟩, ⟨0, rc⟩, ⟨0, rn⟩, ⟨0, rm⟩, rr⟩ fun H5 hS hK5 => ?_
  simp
  apply hK; clear hK K
  have hfo := fold_K z (by omega)
  rw [hn] at hfo
  generalize (enA n).foldl visK (true, 0, []) = st at hS hfo
  obtain ⟨g, c, M⟩ := st
  obtain ⟨f1, f2, f3⟩ := hfo
  simp only at f1 f2 f3
  subst f1 f2
  obtain ⟨⟨m1, rg5⟩, ⟨m2, rc5⟩, ⟨m3, rn5⟩, ⟨m4, rm5⟩, rr5⟩ := hS
  simp only at rg5 rc5 rn5 rm5 rr5
  have ln : ld H5 pn 0 0 = some (.int .i64 (n : Nat)) := by rw [ld_row rn5]; rfl
  have hb := bx_nat (m := n) (by omega) (by omega)
  have hfl : fltS (n : Int) = (catS n : Nat) := by unfold fltS; rw [if_pos hb]; simp
  refine L_reg [4, 5, 6, 7, 8] (fun K hK => ?_)
  simp [okFn_low, ln]
  refine Flat_q (n : Int) H5 _ fun H6 hE6 => ?_
  rw [hb, hfl]
  simp
  apply hK; clear hK K
  have lg : ld H6 (pn + 2) 0 0 = some (.bool true) := by rw [ld_row (hE6.row rg5)]; rfl
  have lc : ld H6 (pn + 1) 0 0 = some (.int .i64 (catS n : Nat)) := by rw [ld_row (hE6.row rc5)]; rfl
  have lm : ld H6 (pn + 4) 0 0 = some (.map (pn + 3)) := by rw [ld_row (hE6.row rm5)]; rfl
  have rr6 := hE6.row rr5
  refine AWL_cons (AW_region [2] ?_)
  refine AO_cut 12 ?_
  simp [pickV, lg, lc, lm]
  refine AO_mlen (r := pn + 3) (l := mapS M) rfl rfl (by rw [mt41]; rfl) rfl rr6 rfl ?_
  have hml : (mapS M).length = catS n := by simp [mapS, f3]
  rw [hml]
  refine wpO_sound ?_
  simp [putDst, eset, okFn_low, pickV, lc]
  refine works_ac _ _ ?_
  simp [pickV]
  show AWL _ _ _ _ _ _
  exact L_ret ⟨.inr rfl, rfl⟩
end Go.Proofs.Ytjaefngmidllgaa.St
