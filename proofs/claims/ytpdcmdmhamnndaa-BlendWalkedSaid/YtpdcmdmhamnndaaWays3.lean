/- Way, and the reference's. -/
import Derived.Test.YtpdcmdmhamnndaaWays2
namespace Go.Proofs.Ytpdcmdmhamnndaa
open Go Go.Proofs.Ytpdcmdmhamnndaa.AX

theorem exchange_q (n : Nat) (hn : n ≤ 10) (v : AV) (l : List Int) (out inn : Int) (H : AH) (hl : Okb n l) (ho : out ∈ l) (hi : 0 ≤ inn ∧ inn < n) (hin : inn ∉ l) (hv : Ls H v l) (Q : AV → AH → Prop)
    (hq : Q (.slice (some H.length) 0 (exS n l out inn).length 0 1 false) (H ++ [.row ((exS n l out inn).map (.int .i64)) 0 (exS n l out inn).length false])) : AC Try.prog 74 [v, .int .i64 out, .int .i64 inn] H Q := by
  refine AC.tidy (l := (exS n l out inn).map (.int .i64)) (by simpa using exS_ne n l out inn hl hi) (belB_ints _ _) (fun Q h => exchange_ac n hn v l out inn H Q hl ho hi hin hv h) Q ?_
  simpa using hq
theorem exchanged_q (n : Nat) (hn : n ≤ 10) (v : AV) (l : List Int) (out inn : Int) (H : AH) (hl : Okb n l) (hi : 0 ≤ inn ∧ inn < n) (hll : l.length ≤ 1000000) (hv : Ls H v l) (Q : AV → AH → Prop)
    (hq : Q (.slice (some H.length) 0 (exS n l out inn).length 0 1 false) (H ++ [.row ((exS n l out inn).map (.int .i64)) 0 (exS n l out inn).length false])) : AC Try.prog 75 [.int .i64 n, v, .int .i64 out, .int .i64 inn] H Q := by
  refine AC.tidy (l := (exS n l out inn).map (.int .i64)) (by simpa using exS_ne n l out inn hl hi) (belB_ints _ _) (fun Q h => exchanged_ac n hn v l out inn H Q hll hv h) Q ?_
  simpa using hq
set_option maxRecDepth 100000 in
theorem kept_own (v : AV) (l : List Int) (H : AH) (Q : AV → AH → Prop) (hl : l.length ≤ 1000000) (hv : Ls H v l) (h : ∀ r ver s H', H.length ≤ r → H'[r]? = some (.row (l.map (.int .i64)) ver s false) → Ext H H' → Q (.slice (some r) 0 l.length ver 1 false) H') : AC Try.prog 73 [v] H Q := by
  obtain ⟨r0, off0, ver0, sz0, full0, hv0, -⟩ := id hv
  refine L_body 11 Try.func73 rfl rfl ?_
  refine L_reg [0] (fun K hK => ?_)
  simp
  apply hK; clear hK K
  refine L_reg [0, 3] (fun K hK => ?_)
  simp [hv0, make_z elz22 (show l.length ≤ 16777216 by omega)]
  apply hK; clear hK K
  have hE1 : Ext H (H ++ [AObj.row (List.replicate l.length (AV.int .i64 0)) 0 0 false]) := .push _ _
  have hw : (H ++ [AObj.row (List.replicate l.length (AV.int .i64 0)) 0 0 false])[H.length]? = some (.row (List.replicate l.length (AV.int .i64 0)) 0 0 false) := by simp
  generalize H ++ [AObj.row (List.replicate l.length (AV.int .i64 0)) 0 0 false] = H1 at hE1 hw ⊢
  obtain ⟨s, hcp⟩ := copy_new (H := H) (n := 0) hw (hv.ext hE1)
  rw [hv0] at hcp
  refine L_reg [3] (fun K hK => ?_)
  simp [hcp]
  apply hK; clear hK K
  refine L_reg [2] (fun K hK => ?_)
  simp
  apply hK; clear hK K
  exact L_ret ⟨.inr rfl, _, rfl, h H.length 0 s _ (Nat.le_refl _) (get_set hw) (hE1.set _ (Nat.le_refl _))⟩

def waysS (n : Int) (a b : List Int) : List (List Int) := if bothE n a b = 0 then wayS n.toNat a (lack a b) (lack b a) else []
theorem wayS_nil (n : Nat) (a is : List Int) : wayS n a [] is = [a] := by cases is <;> rfl
set_option maxRecDepth 100000 in
theorem Way_ac (n : Int) (u v : AV) (a b : List Int) (H : AH) (Q : AV → AH → Prop) (ha : a.length ≤ 1000000) (hb : b.length ≤ 1000000) (hu : Ls H u a) (hv : Ls H v b) (h : ∀ w H', Lss H' w (waysS n a b) → Ext H H' → Q (.tuple [w, .int .i64 (bothE n a b)]) H') : AC Try.prog 29 [.int .i64 n, u, v] H Q := by
  obtain ⟨q0, off0, ver0, sz0, full0, rfl, -⟩ := id hu
  obtain ⟨q1, off1, ver1, sz1, full1, rfl, -⟩ := id hv
  refine L_body 50 Try.func29 rfl rfl ?_
  refine L_reg [0, 1, 2] (fun K hK => ?_)
  simp
  apply hK; clear hK K
  refine L_reg [1, 2, 8] (fun K hK => ?_)
  simp [okFn_low]
  refine checkTwo_ac n _ _ a b _ _ ha hb hu hv ?_
  simp
  apply hK; clear hK K
  refine L_reg [1, 2, 8, 18] (fun K hK => ?_)
  simp
  apply hK; clear hK K
  unfold waysS at h
  refine L_split rfl (fun ht => ?_) (fun hf => ?_)
  · have hne : bothE n a b ≠ 0 := by simpa using ht
    rw [if_neg hne] at h
    refine L_reg [6, 7] (fun K hK => ?_)
    simp
    apply hK; clear hK K
    exact L_ret ⟨.inr rfl, _, rfl, h _ _ (.nil H) (.refl H)⟩
  · have he : bothE n a b = 0 := by simpa using hf
    rw [if_pos he, he] at h
    obtain ⟨N, rfl, hN, hoa, hob, hab⟩ := both_ok he
    simp only [Int.toNat_natCast] at h
    refine L_reg [1, 2, 9] (fun K hK => ?_)
    simp [okFn_low]
    refine kept_own _ a H _ ha hu (fun r ver s H1 g1 g2 hE1 => ?_)
    simp
    apply hK; clear hK K
    have hrl := lt_of_row g2
    have hE2 := hE1.trans (.push H1 [AObj.row [.slice (some r) 0 a.length ver 1 false] 0 1 false])
    have g2' := (Ext.push H1 [AObj.row [.slice (some r) 0 a.length ver 1 false] 0 1 false]).row g2
    have g3 : (H1 ++ [AObj.row [.slice (some r) 0 a.length ver 1 false] 0 1 false])[H1.length]? = some (.row [.slice (some r) 0 a.length ver 1 false] 0 1 false) := by simp
    have hll : (H1 ++ [AObj.row [.slice (some r) 0 a.length ver 1 false] 0 1 false]).length = H1.length + 1 := by simp
    generalize H1 ++ [AObj.row [.slice (some r) 0 a.length ver 1 false] 0 1 false] = H2 at hE2 g2' g3 hll ⊢
    generalize hr9 : H1.length = r9 at *
    have hle1 := hE1.1
    refine L_reg [1, 2, 9, 10] (fun K hK => ?_)
    simp [okFn_low]
    refine lacking_ac _ _ b a H2 _ hb ha (hv.ext hE2) (hu.ext hE2) (fun v10 H3 hO10 hE3 => ?_)
    simp
    apply hK; clear hK K
    refine L_reg [9, 10, 28, 29, 30] (fun K hK => ?_)
    simp [okFn_low]
    refine lacking_ac _ _ a b H3 _ ha hb (hu.ext (hE2.trans hE3)) (hv.ext (hE2.trans hE3)) (fun v28 H4 hO28 hE4 => ?_)
    obtain ⟨r28, o28, vr28, z28, f28, hv28, -⟩ := ownG_ls hO28
    simp [hv28]
    apply hK; clear hK K
    have hl3 := hE3.1
    have x10 : LsX r9 H4 v10 (lack b a) := (ownG_X hO10 (by omega)).ext hE4
    have x28 : LsX r9 H4 v28 (lack a b) := ownG_X hO28 (by omega)
    have hE34 := hE3.trans hE4
    have hels : Els H.length r9 H4 [.slice (some r) 0 a.length ver 1 false] [a] := els_one g1 (by omega) (hE34.row g2')
    have hrow9 := hE34.row g3
    have hE04 := hE2.trans hE34
    rw [← hv28]
    have hr9' : H.length ≤ r9 := by omega
    clear hO10 hO28 g2 g2' g3 hE34 hE3 hE4 hE2 hu hv hE1 hl3 hll hr9 hrl hv28
    have hlen := lack_len hoa.2 hob.2 hab
    have hal : (lack a b).length ≤ 10 := by have := okb_len hoa; unfold lack; exact Nat.le_trans (List.length_filter_le _ _) (by omega)
    generalize hos : lack a b = os at *
    generalize his : lack b a = is at *
    refine L_block (L_loopV [9, 30] (fun k vs H' => ∃ (i ver s : Nat) (pre : List (List Int)) (cur : List Int) (rs : List AV), k = os.length - i ∧ i ≤ os.length ∧ pre.length = i ∧ Okb N cur ∧ lack cur b = os.drop i ∧ lack b cur = is.drop i ∧ wayS N a os is = pre ++ wayS N cur (os.drop i) (is.drop i) ∧
      H'[r9]? = some (.row rs ver s false) ∧ Els H.length r9 H' rs (pre ++ [cur]) ∧ KeepX r9 H4 H' ∧ Ext H H' ∧ vs = [.slice (some r9) 0 rs.length ver 1 false, .int .i64 i]) _ [.slice (some r9) 0 1 0 1 false, .int .i64 (0 : Nat)] rfl ⟨0, 0, 1, [], a, _, rfl, by omega, rfl, hoa, by simpa using hos, by simpa using his, by simp, hrow9, hels, .refl _ _, hE04, rfl⟩ ?_)
    rintro k _ H' ⟨i, ver9, s9, pre, cur, rs, rfl, hi, hpl, hoc, hlc1, hlc2, hw, hrow, hel, hK, hE, rfl⟩
    have hrl2 := hel.1
    simp only [List.length_append, List.length_singleton, hpl] at hrl2
    refine L_reg [9, 10, 28, 29, 30, 31] (fun K hK => ?_)
    simp
    apply hK; clear hK K
    refine L_dec (i < os.length) (by simp) (fun hlt => ?_) (fun hge => L_exit ?_)
    · have hlt2 : i < is.length := by omega
      have x10' := x10.keep hK
      have x28' := x28.keep hK
      obtain ⟨rr, o1, vr1, z1, f1, rfl, hl28⟩ := x28'
      obtain ⟨ra, rfl, rfl, -, hrd28⟩ := hl28 i hlt
      obtain ⟨rr2, o2, vr2, z2, f2, rfl, hl10⟩ := x10'
      obtain ⟨rb, rfl, rfl, -, hrd10⟩ := hl10 i hlt2
      rw [List.drop_eq_getElem_cons hlt] at hlc1 hw
      rw [List.drop_eq_getElem_cons hlt2] at hlc2 hw
      have hout : os[i] ∈ cur ∧ os[i] ∉ b := mem_lack.1 (by rw [hlc1]; exact List.mem_cons_self)
      have hinn : is[i] ∈ b ∧ is[i] ∉ cur := mem_lack.1 (by rw [hlc2]; exact List.mem_cons_self)
      have hir := hob.1 _ hinn.1
      obtain ⟨hst1, hst2⟩ := lack_step hoc hob hlc1 hlc2
      obtain ⟨rc, vrc, sc, e1, e2, e3, e4⟩ := hel.2 i (by simp; omega)
      have hcur : (pre ++ [cur])[i]'(by simp; omega) = cur := by
        rw [List.getElem_append_right (by omega)]; simp
      rw [hcur] at e3 e4
      have hldc : ld H' r9 i ver9 = some (.slice (some rc) 0 cur.length vrc 1 false) := by rw [ld_row hrow, e3]; rfl
      have hLc : Ls H' (.slice (some rc) 0 cur.length vrc 1 false) cur := Ls.row e4 false
      refine L_block ?_
      refine L_reg [9, 10, 11, 12, 28, 29, 30] (fun K hK => ?_)
      simp [hlt, hrd28]
      apply hK; clear hK K
      have hnx := exS_okb N cur os[i] is[i]
      have hexq := exchange_q N hN _ cur os[i] is[i] H' hoc hout.1 hir hinn.2 hLc
      have hwst : wayS N cur (os[i] :: os.drop (i + 1)) (is[i] :: is.drop (i + 1)) = cur :: wayS N (exS N cur os[i] is[i]) (os.drop (i + 1)) (is.drop (i + 1)) := rfl
      rw [hwst] at hw
      generalize exS N cur os[i] is[i] = nx at *
      have hEx : Ext H' (H' ++ [AObj.row (nx.map (.int .i64)) 0 nx.length false]) := .push _ _
      have hpush : Ext (H' ++ [AObj.row (nx.map (.int .i64)) 0 nx.length false]) (H' ++ [AObj.row (nx.map (.int .i64)) 0 nx.length false] ++ [AObj.row [.slice (some H'.length) 0 nx.length 0 1 false] 0 1 false]) := .push _ _
      have hap := rnd_append (w := .slice (some H'.length) 0 nx.length 0 1 false) (m := 1) (hEx.row hrow) rfl (by omega)
      have hl' := lt_of_row hrow
      have hle' := hE.1
      obtain ⟨Hn, hHn⟩ : ∃ Hn, Hn = (H' ++ [AObj.row (nx.map (.int .i64)) 0 nx.length false] ++ [AObj.row [.slice (some H'.length) 0 nx.length 0 1 false] 0 1 false]).set r9 (.row (rs ++ [.slice (some H'.length) 0 nx.length 0 1 false]) (ver9 + 1) (min s9 rs.length) false) := ⟨_, rfl⟩
      rw [← hHn] at hap
      have hrow5 : Hn[r9]? = some (.row (rs ++ [.slice (some H'.length) 0 nx.length 0 1 false]) (ver9 + 1) (min s9 rs.length) false) := by rw [hHn]; exact get_set ((hEx.trans hpush).row hrow)
      have hKn : KeepX r9 H' Hn := by rw [hHn]; exact (((KeepX.refl r9 H').ext hEx).ext hpush).set _
      have hKa : KeepX r9 (H' ++ [AObj.row (nx.map (.int .i64)) 0 nx.length false]) Hn := by rw [hHn]; exact ((KeepX.refl r9 _).ext hpush).set _
      have hK4 : KeepX r9 H4 Hn := by rw [hHn]; exact ((hK.ext hEx).ext hpush).set _
      have hEn : Ext H Hn := by rw [hHn]; exact ((hE.trans hEx).trans hpush).set _ hr9'
      have hrx : Hn[H'.length]? = some (.row (nx.map (.int .i64)) 0 nx.length false) := hKa.row (by omega) (by simp)
      have hels' := (hel.keep hKn).push (r' := H'.length) (ver := 0) (s := nx.length) (m := nx) (by omega) (by omega) hrx
      have hi9 : i < rs.length := by omega
      clear hHn
      refine L_regT mixed [9, 10, 28, 29, 30] (by kernel_rfl) (fun K hK' => ?_)
      simp [okFn_low, hldc, hrd10, hi9, hlt2]
      refine exC_mk hexq ?_
      simp only [List.length_append, List.length_singleton, List.append_assoc, List.cons_append, List.nil_append] at hap
      simp [hap]
      apply hK'; clear hK' K
      refine L_reg [9, 10, 28, 29, 30] (fun K hK => ?_)
      simp [wrap_i64 (a := (i : Int) + 1) (by omega)]
      apply hK; clear hK K
      exact ⟨os.length - (i + 1), [.slice (some r9) 0 (rs.length + 1) (ver9 + 1) 1 false, .int .i64 (i + 1 : Nat)], by omega, by simp, i + 1, ver9 + 1, min s9 rs.length, pre ++ [cur], nx, _, rfl, by omega, by simp [hpl], hnx, hst1, hst2, by rw [hw]; simp, hrow5, hels', hK4, hEn, by simp⟩
    · obtain rfl : i = os.length := by omega
      rw [List.drop_length, wayS_nil] at hw
      refine L_reg [6, 7] (fun K hK => ?_)
      simp
      apply hK; clear hK K
      exact L_ret ⟨.inr rfl, _, rfl, h _ _ (by rw [hw]; exact Rnd.lss (N := H.length) ⟨r9, ver9, s9, rs, by omega, by simp [hrl2, hpl], hrow, hel⟩) hE⟩
end Go.Proofs.Ytpdcmdmhamnndaa
