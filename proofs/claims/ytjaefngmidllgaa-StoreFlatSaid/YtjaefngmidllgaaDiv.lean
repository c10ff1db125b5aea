/- Divisions of keys. -/
import Derived.Test.YtjaefngmidllgaaRoom
namespace Go.Proofs.Ytjaefngmidllgaa.St
open Go Go.Proofs.Ytjaefngmidllgaa Go.Proofs.Ytjaefngmidllgaa.AX
set_option maxRecDepth 100000
set_option linter.unusedVariables false
/-- The row of a division that is made. -/
def rowD {K : Type} [BEq K] (l : List K) (i : Nat) : List Nat := dv (l.take i) ++ List.replicate (l.length - i) 0
theorem set_ne {L : AH} {r j : Nat} {o : AObj} (h : r ≠ j) : (L.set r o)[j]? = L[j]? := List.getElem?_set_ne h
theorem rowD_zero {K : Type} [BEq K] (l : List K) : rowD l 0 = List.replicate l.length 0 := by simp [rowD, dv, dvL]
theorem rowD_all {K : Type} [BEq K] (l : List K) : rowD l l.length = dv l := by simp [rowD]
theorem dvL_len' {K : Type} [BEq K] : ∀ (l s : List K), (dvL s l).length = l.length
  | [], _ => rfl
  | k :: l, s => by simp [dvL, dvL_len' l]
theorem rowD_len {K : Type} [BEq K] (l : List K) {i : Nat} (h : i ≤ l.length) : (rowD l i).length = l.length := by
  simp [rowD, dv, dvL_len']; omega
theorem rowD_set {K : Type} [BEq K] [LawfulBEq K] (l : List K) {i : Nat} (h : i < l.length) : (rowD l i).set i ((nub (l.take i)).idxOf l[i]) = rowD l (i + 1) := by
  have e : List.replicate (l.length - i) 0 = 0 :: List.replicate (l.length - (i + 1)) 0 := by
    rw [show l.length - i = (l.length - (i + 1)) + 1 by omega, List.replicate_succ]
  have hl : (dv (l.take i)).length = i := by simp [dv, dvL_len']; omega
  have hd : dv (l.take (i + 1)) = dv (l.take i) ++ [(nub (l.take i)).idxOf l[i]] := by
    rw [← List.take_append_getElem h]; exact dvL_snoc _ [] _
  unfold rowD
  rw [e, hd, List.set_append, if_neg (by omega), hl]
  simp
theorem il_set (l : List Nat) (i x : Nat) : (il l).set i (x : Int) = il (l.set i x) := by simp [il, List.map_set]
/-- A slice of arrays of ints. -/
def Lk (m : Nat) (H : AH) (v : AV) (l : List (List Int)) : Prop := ∃ r off ver full, v = .slice (some r) off l.length ver m full ∧ ∀ i (h : i < l.length), ldn H r ver m (off + i * m) = some (l[i].map (.int .i64))
theorem Lk.ext {m : Nat} {H H' : AH} {v : AV} {l : List (List Int)} (h : Lk m H v l) (hE : Ext H H') : Lk m H' v l := by
  obtain ⟨r, off, ver, full, rfl, h⟩ := h
  exact ⟨r, off, ver, full, rfl, fun i hi => ldn_ext hE (h i hi)⟩
theorem room88_kp (s : List (Int)) (k : Int) (r : Nat) (H : AH) (hm : MapI H r (mpF 0 s)) (Q : AV → AH → Prop) (h : ∀ H', H.length ≤ H'.length → (∀ j, j < H.length → j ≠ r → H'[j]? = H[j]?) → MapI H' r (mpF 0 (if s.contains k then s else s ++ [k])) → Q (.int .i64 (s.idxOf k : Nat)) H') : AC Try.prog 88 [.agg [.map r], .int .i64 k] H Q := by
  have hrl : r < H.length := (List.getElem?_eq_some_iff.1 hm).1
  refine room_ac s k r H hm Q ?_
  by_cases c : k ∈ s
  · rw [if_pos c]
    refine h _ (by simp) (fun j hj _ => (Ext.push H _).2 j hj) ?_
    rw [if_pos (by simpa using c)]
    exact (Ext.push H _).row hm
  · rw [if_neg c]
    refine h _ (by simp) (fun j hj hne => by rw [set_ne (Ne.symm hne)]; exact (Ext.push H _).2 j hj) ?_
    rw [if_neg (by simpa using c)]
    exact get_set ((Ext.push H _).row hm)
theorem div60_ac (l : List (Int)) (v : AV) (hlen : l.length ≤ 1000) (H : AH) (hv : Ls H v l) (Q : AV → AH → Prop) (h : ∀ v' H', OwnF H.length H' v' ((il (dv l)).map (.int .i64)) → Ext H H' → Q v' H') : AC Try.prog 60 [v] H Q := by
  refine L_body 27 Try.func60 rfl rfl ?_
  have hvl := ls_len hv
  obtain ⟨I, hI, hz⟩ := zeroT_some zt78
  refine L_reg [0] (fun K hK => ?_)
  simp
  apply hK; clear hK K
  have hst : storeV Try.prog 78 (H ++ [AObj.map (mapL []), AObj.row [.nilmap] 0 0 false]) (.ptr (H.length + 1) 0 0) (.agg [.map H.length]) = some (none, H ++ [AObj.map [], AObj.row [.map H.length] 0 0 false]) := by
    rw [store_agg ag78 (c := [.nilmap]) (s := 0) (by simp) (by decide) rfl (by simp) rfl (by simp [AV.one])]
    simp [mapL]
  have hbd : aBuilt Try.prog 78 [(0, .map H.length)] = some [.map H.length] := by kernel_rfl
  have hmk : aMapMake Try.prog 76 none H = some (some (.map H.length), H ++ [AObj.map (mapL [])]) := make_I mt76
  refine L_reg [0, 3] (fun K hK => ?_)
  simp [hmk, hI, hz, hbd, hst]
  apply hK; clear hK K
  have e1 : Ext H (H ++ [AObj.map [], AObj.row [.map H.length] 0 0 false]) := .push _ _
  have m1 : MapI (H ++ [AObj.map [], AObj.row [.map H.length] 0 0 false]) H.length (mpF 0 (nub (l.take 0))) := by unfold MapI; simp [mapL, nub, nubL, mpF]
  have p1 : (H ++ [AObj.map [], AObj.row [.map H.length] 0 0 false])[H.length + 1]? = some (.row [.map H.length] 0 0 false) := by simp
  have n1 : (H ++ [AObj.map [], AObj.row [.map H.length] 0 0 false]).length = H.length + 2 := by simp
  generalize H ++ [AObj.map [], AObj.row [.map H.length] 0 0 false] = H1 at e1 m1 p1 n1 ⊢
  refine L_reg [0, 3, 4] (fun K hK => ?_)
  simp [hvl, make_z elz22 (show l.length ≤ 16777216 by omega)]
  apply hK; clear hK K
  have e2 : Ext H1 (H1 ++ [AObj.row (List.replicate l.length (AV.int .i64 0)) 0 0 false]) := .push _ _
  have r2 : (H1 ++ [AObj.row (List.replicate l.length (AV.int .i64 0)) 0 0 false])[H1.length]? = some (.row ((il (rowD l 0)).map (.int .i64)) 0 0 false) := by rw [rowD_zero]; simp [il]
  rw [n1] at r2 ⊢
  have m2 : MapI (H1 ++ [AObj.row (List.replicate l.length (AV.int .i64 0)) 0 0 false]) H.length (mpF 0 (nub (l.take 0))) := e2.row m1
  have p2 := e2.row p1
  generalize H1 ++ [AObj.row (List.replicate l.length (AV.int .i64 0)) 0 0 false] = H2 at e2 r2 m2 p2 ⊢
  refine L_reg [3, 4, 12, 13, 14] (fun K hK => ?_)
  simp [hvl]
  apply hK; clear hK K
  refine L_block (L_loopV [14] (fun q vs H' => ∃ (i t : Nat), q = l.length - i ∧ i ≤ l.length ∧ vs = [.int .i64 i] ∧ Ext H H' ∧ MapI H' H.length (mpF 0 (nub (l.take i))) ∧ H'[H.length + 1]? = some (.row [.map H.length] 0 0 false) ∧ H'[H.length + 2]? = some (.row ((il (rowD l i)).map (.int .i64)) 0 t false)) _ [.int .i64 (0 : Nat)] rfl ⟨0, 0, rfl, by omega, rfl, e1.trans e2, m2, p2, r2⟩ ?_)
  clear m1 p1 e2 r2 m2 p2 H2
  rintro q _ H2 ⟨i, t, rfl, hi, rfl, hE2, m2, p2, r2⟩
  refine L_reg [3, 4, 12, 13, 14, 15] (fun K hK => ?_)
  simp
  apply hK; clear hK K
  refine L_dec (i < l.length) (by simp) (fun hlt => ?_) (fun hge => L_exit ?_)
  · refine L_block ?_
    have hset := rowD_set l hlt
    have hnb : nub (l.take (i + 1)) = if (nub (l.take i)).contains l[i] then nub (l.take i) else nub (l.take i) ++ [l[i]] := by rw [← List.take_append_getElem hlt]; exact nubL_snoc _ [] _
    have hrl := rowD_len l hi
    have hlz := (List.getElem?_eq_some_iff.1 r2).1
    obtain ⟨rz, pz, vz, hix, hldz⟩ := ls_ix (hv.ext hE2) hlt
    generalize l[i] = x at hldz hset hnb
    refine L_reg [3, 4, 5, 6, 12, 13, 14] (fun K hK => ?_)
    simp [hix, hldz]
    apply hK; clear hK K
    have lp : ldn H2 (H.length + 1) 0 1 0 = some [.map H.length] := by rw [ldn_row p2]; rfl
    refine L_reg [3, 4, 12, 13, 14] (fun K hK => ?_)
    simp [okFn_low, lp]
    refine room88_kp (nub (l.take i)) x H.length H2 m2 _ fun H3 g1 g2 g3 => ?_
    have e3 : Ext H H3 := ⟨by have := hE2.1; omega, fun j hj => by rw [g2 j (by omega) (by omega), hE2.2 j hj]⟩
    have r3 : H3[H.length + 2]? = some (.row ((il (rowD l i)).map (.int .i64)) 0 t false) := by rw [g2 _ hlz (by omega)]; exact r2
    have p3 : H3[H.length + 1]? = some (.row [.map H.length] 0 0 false) := by rw [g2 _ (by omega) (by omega)]; exact p2
    have hst := store_row (P := Try.prog) (u := 3) (p := i) sc3 (x := .int .i64 ((nub (l.take i)).idxOf x : Nat)) (y := .int .i64 ((rowD l i)[i]'(by omega) : Nat)) rfl r3 (by rw [List.getElem?_map, List.getElem?_eq_getElem (by rw [il_len]; omega), il_get (by omega)]; rfl)
    rw [← List.map_set (f := AV.int .i64), il_set, hset] at hst
    simp [hlt, hst]
    apply hK; clear hK K
    refine L_reg [3, 4, 12, 13, 14] (fun K hK => ?_)
    simp [wrap_i64 (a := (i : Int) + 1) (by omega)]
    apply hK; clear hK K
    refine ⟨l.length - (i + 1), [.int .i64 (i + 1 : Nat)], by omega, by simp, i + 1, _, rfl, by omega, rfl, e3.set _ (by omega), ?_, ?_, get_set r3⟩
    · rw [hnb]
      unfold MapI at g3 ⊢
      rw [set_ne (by omega)]; exact g3
    · rw [set_ne (by omega)]; exact p3
  · have e : i = l.length := by omega
    subst e
    rw [rowD_all] at r2
    refine L_reg [2] (fun K hK => ?_)
    simp
    apply hK; clear hK K
    exact L_ret ⟨.inr rfl, _, rfl, h _ _ (.inr ⟨H.length + 2, 0, t, by omega, by simp [il_len, dv_len], r2⟩) hE2⟩
theorem room95_kp (s : List (List Int)) (k : List Int) (r : Nat) (H : AH) (hm : MapA H r (mpF 0 s)) (hk : okKey 2 k) (hs : ∀ x ∈ s, okKey 2 x) (Q : AV → AH → Prop) (h : ∀ H', H.length ≤ H'.length → (∀ j, j < H.length → j ≠ r → H'[j]? = H[j]?) → MapA H' r (mpF 0 (if s.contains k then s else s ++ [k])) → Q (.int .i64 (s.idxOf k : Nat)) H') : AC Try.prog 95 [.agg [.map r], .agg (k.map (.int .i64))] H Q := by
  have hrl : r < H.length := (List.getElem?_eq_some_iff.1 hm).1
  refine room95_ac s k r H hm hk hs Q ?_
  by_cases c : k ∈ s
  · rw [if_pos c]
    refine h _ (by simp) (fun j hj _ => (Ext.push H _).2 j hj) ?_
    rw [if_pos (by simpa using c)]
    exact (Ext.push H _).row hm
  · rw [if_neg c]
    refine h _ (by simp) (fun j hj hne => by rw [set_ne (Ne.symm hne)]; exact (Ext.push H _).2 j hj) ?_
    rw [if_neg (by simpa using c)]
    exact get_set ((Ext.push H _).row hm)
theorem div89_ac (l : List (List Int)) (v : AV) (hlen : l.length ≤ 1000) (hok : ∀ x ∈ l, okKey 2 x) (H : AH) (hv : Lk 2 H v l) (Q : AV → AH → Prop) (h : ∀ v' H', OwnF H.length H' v' ((il (dv l)).map (.int .i64)) → Ext H H' → Q v' H') : AC Try.prog 89 [v] H Q := by
  refine L_body 27 Try.func89 rfl rfl ?_
  have hvl : aLen Try.prog 74 v = some (.int .i64 l.length) := by
    obtain ⟨r, off, ver, full, rfl, -⟩ := hv
    exact len74 ..
  obtain ⟨I, hI, hz⟩ := zeroT_some zt93
  refine L_reg [0] (fun K hK => ?_)
  simp
  apply hK; clear hK K
  have hst : storeV Try.prog 93 (H ++ [AObj.map (mapL []), AObj.row [.nilmap] 0 0 false]) (.ptr (H.length + 1) 0 0) (.agg [.map H.length]) = some (none, H ++ [AObj.map [], AObj.row [.map H.length] 0 0 false]) := by
    rw [store_agg ag93 (c := [.nilmap]) (s := 0) (by simp) (by decide) rfl (by simp) rfl (by simp [AV.one])]
    simp [mapL]
  have hbd : aBuilt Try.prog 93 [(0, .map H.length)] = some [.map H.length] := by kernel_rfl
  have hmk : aMapMake Try.prog 55 none H = some (some (.map H.length), H ++ [AObj.map (mapL [])]) := make_I mt55
  refine L_reg [0, 3] (fun K hK => ?_)
  simp [hmk, hI, hz, hbd, hst]
  apply hK; clear hK K
  have e1 : Ext H (H ++ [AObj.map [], AObj.row [.map H.length] 0 0 false]) := .push _ _
  have m1 : MapA (H ++ [AObj.map [], AObj.row [.map H.length] 0 0 false]) H.length (mpF 0 (nub (l.take 0))) := by unfold MapA; simp [mapLA, nub, nubL, mpF]
  have p1 : (H ++ [AObj.map [], AObj.row [.map H.length] 0 0 false])[H.length + 1]? = some (.row [.map H.length] 0 0 false) := by simp
  have n1 : (H ++ [AObj.map [], AObj.row [.map H.length] 0 0 false]).length = H.length + 2 := by simp
  generalize H ++ [AObj.map [], AObj.row [.map H.length] 0 0 false] = H1 at e1 m1 p1 n1 ⊢
  refine L_reg [0, 3, 4] (fun K hK => ?_)
  simp [hvl, make_z elz22 (show l.length ≤ 16777216 by omega)]
  apply hK; clear hK K
  have e2 : Ext H1 (H1 ++ [AObj.row (List.replicate l.length (AV.int .i64 0)) 0 0 false]) := .push _ _
  have r2 : (H1 ++ [AObj.row (List.replicate l.length (AV.int .i64 0)) 0 0 false])[H1.length]? = some (.row ((il (rowD l 0)).map (.int .i64)) 0 0 false) := by rw [rowD_zero]; simp [il]
  rw [n1] at r2 ⊢
  have m2 : MapA (H1 ++ [AObj.row (List.replicate l.length (AV.int .i64 0)) 0 0 false]) H.length (mpF 0 (nub (l.take 0))) := e2.row m1
  have p2 := e2.row p1
  generalize H1 ++ [AObj.row (List.replicate l.length (AV.int .i64 0)) 0 0 false] = H2 at e2 r2 m2 p2 ⊢
  refine L_reg [3, 4, 12, 13, 14] (fun K hK => ?_)
  simp [hvl]
  apply hK; clear hK K
  refine L_block (L_loopV [14] (fun q vs H' => ∃ (i t : Nat), q = l.length - i ∧ i ≤ l.length ∧ vs = [.int .i64 i] ∧ Ext H H' ∧ MapA H' H.length (mpF 0 (nub (l.take i))) ∧ H'[H.length + 1]? = some (.row [.map H.length] 0 0 false) ∧ H'[H.length + 2]? = some (.row ((il (rowD l i)).map (.int .i64)) 0 t false)) _ [.int .i64 (0 : Nat)] rfl ⟨0, 0, rfl, by omega, rfl, e1.trans e2, m2, p2, r2⟩ ?_)
  clear m1 p1 e2 r2 m2 p2 H2
  rintro q _ H2 ⟨i, t, rfl, hi, rfl, hE2, m2, p2, r2⟩
  refine L_reg [3, 4, 12, 13, 14, 15] (fun K hK => ?_)
  simp
  apply hK; clear hK K
  refine L_dec (i < l.length) (by simp) (fun hlt => ?_) (fun hge => L_exit ?_)
  · refine L_block ?_
    have hset := rowD_set l hlt
    have hnb : nub (l.take (i + 1)) = if (nub (l.take i)).contains l[i] then nub (l.take i) else nub (l.take i) ++ [l[i]] := by rw [← List.take_append_getElem hlt]; exact nubL_snoc _ [] _
    have hrl := rowD_len l hi
    have hlz := (List.getElem?_eq_some_iff.1 r2).1
    have hokx := hok _ (List.getElem_mem hlt)
    obtain ⟨rz, pz, vz, hix, hldz⟩ : ∃ r p ver, (∀ k, aIndexAddr Try.prog 74 v (.int k (i : Int)) = some (.ptr r p ver)) ∧ ldn H2 r ver 2 p = some (l[i].map (.int .i64)) := by
      obtain ⟨r, off, ver, full, rfl, hl⟩ := hv.ext hE2
      refine ⟨r, off + i * 2, ver, fun k => ?_, hl i hlt⟩
      rw [ixa74]; simp; omega
    generalize l[i] = x at hldz hset hnb hokx
    obtain ⟨J, hJ, hzJ⟩ := zeroT_some zt56
    have hst : storeV Try.prog 56 (H2 ++ [AObj.row [.int .i64 0, .int .i64 0] 0 0 false]) (.ptr H2.length 0 0) (.agg (x.map (.int .i64))) = some (none, H2 ++ [AObj.row (x.map (.int .i64)) 0 0 false]) := by
      rw [store_agg ag56 (c := [.int .i64 0, .int .i64 0]) (s := 0) (by simp) (by decide) rfl (by simp) (by simp [hokx.1]) (by simp [AV.one])]
      simp
    refine L_reg [3, 4, 5, 6, 12, 13, 14] (fun K hK => ?_)
    simp [hix, hldz, hJ, hzJ, hst]
    apply hK; clear hK K
    have hEx : Ext H2 (H2 ++ [AObj.row (x.map (.int .i64)) 0 0 false]) := .push _ _
    have hxr : (H2 ++ [AObj.row (x.map (.int .i64)) 0 0 false])[H2.length]? = some (.row (x.map (.int .i64)) 0 0 false) := by simp
    have m2 : MapA _ H.length _ := hEx.row m2
    have p2 := hEx.row p2
    have r2 := hEx.row r2
    have hE2 := hE2.trans hEx
    have hlz := (List.getElem?_eq_some_iff.1 r2).1
    generalize H2.length = px at hxr ⊢
    generalize H2 ++ [AObj.row (x.map (.int .i64)) 0 0 false] = H2 at hxr m2 p2 r2 hE2 hlz ⊢
    have lp : ldn H2 (H.length + 1) 0 1 0 = some [.map H.length] := by rw [ldn_row p2]; rfl
    have lx : ldn H2 px 0 2 0 = some (x.map (.int .i64)) := by have := ldn_ints_row hxr; rw [hokx.1] at this; exact this
    refine L_reg [3, 4, 12, 13, 14] (fun K hK => ?_)
    simp [okFn_low, lp, lx]
    refine room95_kp (nub (l.take i)) x H.length H2 m2 hokx (fun y hy => hok y (List.mem_of_mem_take ((nub_mem _ y).1 hy))) _ fun H3 g1 g2 g3 => ?_
    have e3 : Ext H H3 := ⟨by have := hE2.1; omega, fun j hj => by have := hE2.1; rw [g2 j (by omega) (by omega), hE2.2 j hj]⟩
    have r3 : H3[H.length + 2]? = some (.row ((il (rowD l i)).map (.int .i64)) 0 t false) := by rw [g2 _ hlz (by omega)]; exact r2
    have p3 : H3[H.length + 1]? = some (.row [.map H.length] 0 0 false) := by rw [g2 _ (by omega) (by omega)]; exact p2
    have hst := store_row (P := Try.prog) (u := 3) (p := i) sc3 (x := .int .i64 ((nub (l.take i)).idxOf x : Nat)) (y := .int .i64 ((rowD l i)[i]'(by omega) : Nat)) rfl r3 (by rw [List.getElem?_map, List.getElem?_eq_getElem (by rw [il_len]; omega), il_get (by omega)]; rfl)
    rw [← List.map_set (f := AV.int .i64), il_set, hset] at hst
    simp [hlt, hst]
    apply hK; clear hK K
    refine L_reg [3, 4, 12, 13, 14] (fun K hK => ?_)
    simp [wrap_i64 (a := (i : Int) + 1) (by omega)]
    apply hK; clear hK K
    refine ⟨l.length - (i + 1), [.int .i64 (i + 1 : Nat)], by omega, by simp, i + 1, _, rfl, by omega, rfl, e3.set _ (by omega), ?_, ?_, get_set r3⟩
    · rw [hnb]
      unfold MapA at g3 ⊢
      rw [set_ne (by omega)]; exact g3
    · rw [set_ne (by omega)]; exact p3
  · have e : i = l.length := by omega
    subst e
    rw [rowD_all] at r2
    refine L_reg [2] (fun K hK => ?_)
    simp
    apply hK; clear hK K
    exact L_ret ⟨.inr rfl, _, rfl, h _ _ (.inr ⟨H.length + 2, 0, t, by omega, by simp [il_len, dv_len], r2⟩) hE2⟩
theorem room96_kp (s : List (List Int)) (k : List Int) (r : Nat) (H : AH) (hm : MapA H r (mpF 0 s)) (hk : okKey 9 k) (hs : ∀ x ∈ s, okKey 9 x) (Q : AV → AH → Prop) (h : ∀ H', H.length ≤ H'.length → (∀ j, j < H.length → j ≠ r → H'[j]? = H[j]?) → MapA H' r (mpF 0 (if s.contains k then s else s ++ [k])) → Q (.int .i64 (s.idxOf k : Nat)) H') : AC Try.prog 96 [.agg [.map r], .agg (k.map (.int .i64))] H Q := by
  have hrl : r < H.length := (List.getElem?_eq_some_iff.1 hm).1
  refine room96_ac s k r H hm hk hs Q ?_
  by_cases c : k ∈ s
  · rw [if_pos c]
    refine h _ (by simp) (fun j hj _ => (Ext.push H _).2 j hj) ?_
    rw [if_pos (by simpa using c)]
    exact (Ext.push H _).row hm
  · rw [if_neg c]
    refine h _ (by simp) (fun j hj hne => by rw [set_ne (Ne.symm hne)]; exact (Ext.push H _).2 j hj) ?_
    rw [if_neg (by simpa using c)]
    exact get_set ((Ext.push H _).row hm)
theorem div91_ac (l : List (List Int)) (v : AV) (hlen : l.length ≤ 1000) (hok : ∀ x ∈ l, okKey 9 x) (H : AH) (hv : Lk 9 H v l) (Q : AV → AH → Prop) (h : ∀ v' H', OwnF H.length H' v' ((il (dv l)).map (.int .i64)) → Ext H H' → Q v' H') : AC Try.prog 91 [v] H Q := by
  refine L_body 27 Try.func91 rfl rfl ?_
  have hvl : aLen Try.prog 85 v = some (.int .i64 l.length) := by
    obtain ⟨r, off, ver, full, rfl, -⟩ := hv
    exact len85 ..
  obtain ⟨I, hI, hz⟩ := zeroT_some zt97
  refine L_reg [0] (fun K hK => ?_)
  simp
  apply hK; clear hK K
  have hst : storeV Try.prog 97 (H ++ [AObj.map (mapL []), AObj.row [.nilmap] 0 0 false]) (.ptr (H.length + 1) 0 0) (.agg [.map H.length]) = some (none, H ++ [AObj.map [], AObj.row [.map H.length] 0 0 false]) := by
    rw [store_agg ag97 (c := [.nilmap]) (s := 0) (by simp) (by decide) rfl (by simp) rfl (by simp [AV.one])]
    simp [mapL]
  have hbd : aBuilt Try.prog 97 [(0, .map H.length)] = some [.map H.length] := by kernel_rfl
  have hmk : aMapMake Try.prog 95 none H = some (some (.map H.length), H ++ [AObj.map (mapL [])]) := make_I mt95
  refine L_reg [0, 3] (fun K hK => ?_)
  simp [hmk, hI, hz, hbd, hst]
  apply hK; clear hK K
  have e1 : Ext H (H ++ [AObj.map [], AObj.row [.map H.length] 0 0 false]) := .push _ _
  have m1 : MapA (H ++ [AObj.map [], AObj.row [.map H.length] 0 0 false]) H.length (mpF 0 (nub (l.take 0))) := by unfold MapA; simp [mapLA, nub, nubL, mpF]
  have p1 : (H ++ [AObj.map [], AObj.row [.map H.length] 0 0 false])[H.length + 1]? = some (.row [.map H.length] 0 0 false) := by simp
  have n1 : (H ++ [AObj.map [], AObj.row [.map H.length] 0 0 false]).length = H.length + 2 := by simp
  generalize H ++ [AObj.map [], AObj.row [.map H.length] 0 0 false] = H1 at e1 m1 p1 n1 ⊢
  refine L_reg [0, 3, 4] (fun K hK => ?_)
  simp [hvl, make_z elz22 (show l.length ≤ 16777216 by omega)]
  apply hK; clear hK K
  have e2 : Ext H1 (H1 ++ [AObj.row (List.replicate l.length (AV.int .i64 0)) 0 0 false]) := .push _ _
  have r2 : (H1 ++ [AObj.row (List.replicate l.length (AV.int .i64 0)) 0 0 false])[H1.length]? = some (.row ((il (rowD l 0)).map (.int .i64)) 0 0 false) := by rw [rowD_zero]; simp [il]
  rw [n1] at r2 ⊢
  have m2 : MapA (H1 ++ [AObj.row (List.replicate l.length (AV.int .i64 0)) 0 0 false]) H.length (mpF 0 (nub (l.take 0))) := e2.row m1
  have p2 := e2.row p1
  generalize H1 ++ [AObj.row (List.replicate l.length (AV.int .i64 0)) 0 0 false] = H2 at e2 r2 m2 p2 ⊢
  refine L_reg [3, 4, 12, 13, 14] (fun K hK => ?_)
  simp [hvl]
  apply hK; clear hK K
  refine L_block (L_loopV [14] (fun q vs H' => ∃ (i t : Nat), q = l.length - i ∧ i ≤ l.length ∧ vs = [.int .i64 i] ∧ Ext H H' ∧ MapA H' H.length (mpF 0 (nub (l.take i))) ∧ H'[H.length + 1]? = some (.row [.map H.length] 0 0 false) ∧ H'[H.length + 2]? = some (.row ((il (rowD l i)).map (.int .i64)) 0 t false)) _ [.int .i64 (0 : Nat)] rfl ⟨0, 0, rfl, by omega, rfl, e1.trans e2, m2, p2, r2⟩ ?_)
  clear m1 p1 e2 r2 m2 p2 H2
  rintro q _ H2 ⟨i, t, rfl, hi, rfl, hE2, m2, p2, r2⟩
  refine L_reg [3, 4, 12, 13, 14, 15] (fun K hK => ?_)
  simp
  apply hK; clear hK K
  refine L_dec (i < l.length) (by simp) (fun hlt => ?_) (fun hge => L_exit ?_)
  · refine L_block ?_
    have hset := rowD_set l hlt
    have hnb : nub (l.take (i + 1)) = if (nub (l.take i)).contains l[i] then nub (l.take i) else nub (l.take i) ++ [l[i]] := by rw [← List.take_append_getElem hlt]; exact nubL_snoc _ [] _
    have hrl := rowD_len l hi
    have hlz := (List.getElem?_eq_some_iff.1 r2).1
    have hokx := hok _ (List.getElem_mem hlt)
    obtain ⟨rz, pz, vz, hix, hldz⟩ : ∃ r p ver, (∀ k, aIndexAddr Try.prog 85 v (.int k (i : Int)) = some (.ptr r p ver)) ∧ ldn H2 r ver 9 p = some (l[i].map (.int .i64)) := by
      obtain ⟨r, off, ver, full, rfl, hl⟩ := hv.ext hE2
      refine ⟨r, off + i * 9, ver, fun k => ?_, hl i hlt⟩
      rw [ixa85]; simp; omega
    generalize l[i] = x at hldz hset hnb hokx
    obtain ⟨J, hJ, hzJ⟩ := zeroT_some zt84
    have hst : storeV Try.prog 84 (H2 ++ [AObj.row [.int .i64 0, .int .i64 0, .int .i64 0, .int .i64 0, .int .i64 0, .int .i64 0, .int .i64 0, .int .i64 0, .int .i64 0] 0 0 false]) (.ptr H2.length 0 0) (.agg (x.map (.int .i64))) = some (none, H2 ++ [AObj.row (x.map (.int .i64)) 0 0 false]) := by
      rw [store_agg ag84 (c := [.int .i64 0, .int .i64 0, .int .i64 0, .int .i64 0, .int .i64 0, .int .i64 0, .int .i64 0, .int .i64 0, .int .i64 0]) (s := 0) (by simp) (by decide) rfl (by simp) (by simp [hokx.1]) (by simp [AV.one])]
      simp
    refine L_reg [3, 4, 5, 6, 12, 13, 14] (fun K hK => ?_)
    simp [hix, hldz, hJ, hzJ, hst]
    apply hK; clear hK K
    have hEx : Ext H2 (H2 ++ [AObj.row (x.map (.int .i64)) 0 0 false]) := .push _ _
    have hxr : (H2 ++ [AObj.row (x.map (.int .i64)) 0 0 false])[H2.length]? = some (.row (x.map (.int .i64)) 0 0 false) := by simp
    have m2 : MapA _ H.length _ := hEx.row m2
    have p2 := hEx.row p2
    have r2 := hEx.row r2
    have hE2 := hE2.trans hEx
    have hlz := (List.getElem?_eq_some_iff.1 r2).1
    generalize H2.length = px at hxr ⊢
    generalize H2 ++ [AObj.row (x.map (.int .i64)) 0 0 false] = H2 at hxr m2 p2 r2 hE2 hlz ⊢
    have lp : ldn H2 (H.length + 1) 0 1 0 = some [.map H.length] := by rw [ldn_row p2]; rfl
    have lx : ldn H2 px 0 9 0 = some (x.map (.int .i64)) := by have := ldn_ints_row hxr; rw [hokx.1] at this; exact this
    refine L_reg [3, 4, 12, 13, 14] (fun K hK => ?_)
    simp [okFn_low, lp, lx]
    refine room96_kp (nub (l.take i)) x H.length H2 m2 hokx (fun y hy => hok y (List.mem_of_mem_take ((nub_mem _ y).1 hy))) _ fun H3 g1 g2 g3 => ?_
    have e3 : Ext H H3 := ⟨by have := hE2.1; omega, fun j hj => by have := hE2.1; rw [g2 j (by omega) (by omega), hE2.2 j hj]⟩
    have r3 : H3[H.length + 2]? = some (.row ((il (rowD l i)).map (.int .i64)) 0 t false) := by rw [g2 _ hlz (by omega)]; exact r2
    have p3 : H3[H.length + 1]? = some (.row [.map H.length] 0 0 false) := by rw [g2 _ (by omega) (by omega)]; exact p2
    have hst := store_row (P := Try.prog) (u := 3) (p := i) sc3 (x := .int .i64 ((nub (l.take i)).idxOf x : Nat)) (y := .int .i64 ((rowD l i)[i]'(by omega) : Nat)) rfl r3 (by rw [List.getElem?_map, List.getElem?_eq_getElem (by rw [il_len]; omega), il_get (by omega)]; rfl)
    rw [← List.map_set (f := AV.int .i64), il_set, hset] at hst
    simp [hlt, hst]
    apply hK; clear hK K
    refine L_reg [3, 4, 12, 13, 14] (fun K hK => ?_)
    simp [wrap_i64 (a := (i : Int) + 1) (by omega)]
    apply hK; clear hK K
    refine ⟨l.length - (i + 1), [.int .i64 (i + 1 : Nat)], by omega, by simp, i + 1, _, rfl, by omega, rfl, e3.set _ (by omega), ?_, ?_, get_set r3⟩
    · rw [hnb]
      unfold MapA at g3 ⊢
      rw [set_ne (by omega)]; exact g3
    · rw [set_ne (by omega)]; exact p3
  · have e : i = l.length := by omega
    subst e
    rw [rowD_all] at r2
    refine L_reg [2] (fun K hK => ?_)
    simp
    apply hK; clear hK K
    exact L_ret ⟨.inr rfl, _, rfl, h _ _ (.inr ⟨H.length + 2, 0, t, by omega, by simp [il_len, dv_len], r2⟩) hE2⟩
end Go.Proofs.Ytjaefngmidllgaa.St
