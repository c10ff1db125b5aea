/- The reference's Way. -/
import Derived.Test.YtpdcmdmhamnndaaWays3
namespace Go.Proofs.Ytpdcmdmhamnndaa
open Go Go.Proofs.Ytpdcmdmhamnndaa.AX

theorem copy_own {P : Program} {H : AH} {t u : TypeId} (ht : elT P t = true) (hu : elT P u = true) {x : AV} {m : List Int} (hx : Ls H x m) (hm : m.length ≤ 16777216) :
    ∃ r ver s H', aAppend P (H ++ [AObj.row [] 0 0 false]) t u (.slice (some H.length) 0 0 0 1 false) x = some (.slice (some r) 0 m.length ver 1 false, H') ∧ H.length ≤ r ∧ H'[r]? = some (.row (m.map (.int .i64)) ver s false) ∧ Ext H H' := by
  cases m with
  | nil =>
    obtain ⟨e, I, h1, h2, h3, h4, -⟩ := elT_some ht
    have hsrc := src_ls hu (hx.ext (.push H [AObj.row [] 0 0 false]))
    refine ⟨H.length, 0, 0, H ++ [AObj.row [] 0 0 false], ?_, Nat.le_refl _, by simp, .push _ _⟩
    simp only [List.length_nil, List.map_nil] at hsrc
    unfold aAppend
    simp [h1, h2, h3, h4, hsrc]
  | cons y m =>
    obtain ⟨v', H', e1, e2, e3⟩ := copy_append ht hu hx hm
    rcases e2 with ⟨h0, -⟩ | ⟨r, ver, s, g1, rfl, g3⟩
    · simp at h0
    · exact ⟨r, ver, s, H', by simpa using e1, g1, g3, e3⟩
set_option maxRecDepth 100000 in
theorem rWay_ac (n : Int) (u v : AV) (a b : List Int) (H : AH) (Q : AV → AH → Prop) (ha : a.length ≤ 1000000) (hb : b.length ≤ 1000000) (hu : Ls H u a) (hv : Ls H v b) (h : ∀ w H', Lss H' w (waysS n a b) → Ext H H' → Q (.tuple [w, .int .i64 (bothE n a b)]) H') : AC Try.prog 30 [.int .i64 n, u, v] H Q := by
  obtain ⟨q0, off0, ver0, sz0, full0, rfl, -⟩ := id hu
  obtain ⟨q1, off1, ver1, sz1, full1, rfl, -⟩ := id hv
  refine L_body 43 Try.func30 rfl rfl ?_
  refine L_reg [0, 1, 2] (fun K hK => ?_)
  simp
  apply hK; clear hK K
  refine L_reg [0, 1, 2, 8] (fun K hK => ?_)
  simp [okFn_low]
  refine both_ac n _ _ a b _ _ ha hb hu hv ?_
  simp
  apply hK; clear hK K
  refine L_reg [0, 1, 2, 8, 15] (fun K hK => ?_)
  simp
  apply hK; clear hK K
  unfold waysS at h
  refine L_split rfl (fun ht => ?_) (fun hf => ?_)
  · have hne : bothE n a b ≠ 0 := by simpa using ht
    rw [if_neg hne] at h
    refine L_reg [6, 7] (fun K hK => ?_)
    simp
    apply hK; clear hK K
    exact L_ret ⟨.inr rfl, _, rfl, h _ _ (.nil H) (.refl H)⟩
  · have he : bothE n a b = 0 := by simpa using hf
    rw [if_pos he, he] at h
    obtain ⟨N, rfl, hN, hoa, hob, hab⟩ := both_ok he
    simp only [Int.toNat_natCast] at h
    obtain ⟨r, ver, s, H1, c1, g1, g2, hE1⟩ := copy_own (P := Try.prog) el22 el22 hu (by omega)
    refine L_reg [0, 1, 2, 9] (fun K hK => ?_)
    simp [c1]
    apply hK; clear hK K
    have hrl := lt_of_row g2
    have hE2 := hE1.trans (.push H1 [AObj.row [.slice (some r) 0 a.length ver 1 false] 0 1 false])
    have g2' := (Ext.push H1 [AObj.row [.slice (some r) 0 a.length ver 1 false] 0 1 false]).row g2
    have g3 : (H1 ++ [AObj.row [.slice (some r) 0 a.length ver 1 false] 0 1 false])[H1.length]? = some (.row [.slice (some r) 0 a.length ver 1 false] 0 1 false) := by simp
    generalize H1 ++ [AObj.row [.slice (some r) 0 a.length ver 1 false] 0 1 false] = H2 at hE2 g2' g3 ⊢
    generalize hr9 : H1.length = r9 at *
    have hle1 := hE1.1
    have hr9' : H.length ≤ r9 := by omega
    have xu := (Ls.below hu hr9').ext hE2
    have xv := (Ls.below hv hr9').ext hE2
    have hels : Els H.length r9 H2 [.slice (some r) 0 a.length ver 1 false] [a] := els_one g1 (by omega) g2'
    clear g2 g2' c1 hE1 hrl hr9 hle1 hu hv
    have hlen := lack_len hoa.2 hob.2 hab
    have hal : (lack a b).length ≤ 10 := by have := okb_len hoa; unfold lack; exact Nat.le_trans (List.length_filter_le _ _) (by omega)
    refine L_block (L_loopV [1, 9] (fun k vs H' => ∃ (ver s : Nat) (pre : List (List Int)) (cur os is : List Int) (rs : List AV) (w : AV), k = os.length ∧ os.length = is.length ∧ pre.length + os.length ≤ 10 ∧ Okb N cur ∧ lack cur b = os ∧ lack b cur = is ∧ wayS N a (lack a b) (lack b a) = pre ++ wayS N cur os is ∧
      H'[r9]? = some (.row rs ver s false) ∧ Els H.length r9 H' rs (pre ++ [cur]) ∧ KeepX r9 H2 H' ∧ Ext H H' ∧ LsX r9 H' w cur ∧ vs = [w, .slice (some r9) 0 rs.length ver 1 false]) _ [.slice q0 off0 a.length ver0 sz0 full0, .slice (some r9) 0 1 0 1 false] rfl ⟨0, 1, [], a, _, _, _, _, rfl, hlen, by simpa using hal, hoa, rfl, rfl, by simp, g3, hels, .refl _ _, hE2, xu, rfl⟩ ?_)
    rintro k _ H' ⟨ver9, s9, pre, cur, os, is, rs, w, rfl, hl, hbd, hoc, hlc1, hlc2, hw, hrow, hel, hK, hE, hxw, rfl⟩
    have hrl2 := hel.1
    simp only [List.length_append, List.length_singleton] at hrl2
    have hxv := xv.keep hK
    have hcl := okb_len hoc
    have hbl := okb_len hob
    refine L_reg [0, 1, 2, 9, 24] (fun K hK => ?_)
    simp [okFn_low]
    refine rsame_ac w _ cur b _ _ (by omega) hxw.ls hxv.ls ?_
    simp
    apply hK; clear hK K
    by_cases hcb : cur = b
    · refine L_false (by simp [hcb]) (L_exit ?_)
      have : os = [] := by rw [← hlc1, hcb, lack_self]
      subst this
      rw [wayS_nil] at hw
      refine L_reg [6, 7] (fun K hK => ?_)
      simp
      apply hK; clear hK K
      exact L_ret ⟨.inr rfl, _, rfl, h _ _ (by rw [hw]; exact Rnd.lss (N := H.length) ⟨r9, ver9, s9, rs, by omega, by simp [hrl2], hrow, hel⟩) hE⟩
    · refine L_true (by simp [hcb]) ?_
      have hos : os ≠ [] := by
        rintro rfl
        have : is = [] := List.eq_nil_of_length_eq_zero (by simpa using hl.symm)
        exact hcb (way_end hoc hob hlc1 (by rw [hlc2, this]))
      have his : is ≠ [] := by
        rintro rfl
        exact hos (List.eq_nil_of_length_eq_zero (by simpa using hl))
      obtain ⟨o, os', ho'⟩ := List.exists_cons_of_ne_nil hos
      obtain ⟨ii, is', hi'⟩ := List.exists_cons_of_ne_nil his
      have ho : os.head?.getD 0 = o := by rw [ho']; rfl
      have hi : is.head?.getD 0 = ii := by rw [hi']; rfl
      have hout : o ∈ cur ∧ o ∉ b := mem_lack.1 (by rw [hlc1, ho']; exact List.mem_cons_self)
      have hinn : ii ∈ b ∧ ii ∉ cur := mem_lack.1 (by rw [hlc2, hi']; exact List.mem_cons_self)
      have hir := hob.1 _ hinn.1
      obtain ⟨hst1, hst2⟩ := lack_step hoc hob (hlc1.trans ho') (hlc2.trans hi')
      have hnx := exS_okb N cur o ii
      have hwst : wayS N cur os is = cur :: wayS N (exS N cur o ii) os' is' := by rw [ho', hi']; rfl
      rw [hwst] at hw
      have q1 := rless_q w _ cur b H' (by omega) (by omega) hxw.ls hxv.ls (by rw [hlc1]; exact hos)
      rw [hlc1] at q1
      have hEa : Ext H' (H' ++ [AObj.row (os.map (.int .i64)) 0 os.length false]) := .push _ _
      have q2 := rless_q _ w b cur (H' ++ [AObj.row (os.map (.int .i64)) 0 os.length false]) (by omega) (by omega) (hxv.ls.ext hEa) (hxw.ls.ext hEa) (by rw [hlc2]; exact his)
      rw [hlc2] at q2
      have hEb : Ext (H' ++ [AObj.row (os.map (.int .i64)) 0 os.length false]) (H' ++ [AObj.row (os.map (.int .i64)) 0 os.length false] ++ [AObj.row (is.map (.int .i64)) 0 is.length false]) := .push _ _
      have q3 := exchanged_q N hN w cur o ii (H' ++ [AObj.row (os.map (.int .i64)) 0 os.length false] ++ [AObj.row (is.map (.int .i64)) 0 is.length false]) hoc hir (by omega) (hxw.ls.ext (hEa.trans hEb))
      generalize exS N cur o ii = nx at *
      have e1 := head_ls (H := H') hos
      have e2 := head_ls (H := H' ++ [AObj.row (os.map (.int .i64)) 0 os.length false]) his
      have hp1 : 0 < os.length := List.length_pos_iff.2 hos
      have hp2 : 0 < is.length := List.length_pos_iff.2 his
      refine L_block ?_
      refine L_regX mixed [0, 1, 2, 9] (by kernel_rfl) (fun K hK' => ?_)
      simp [okFn_low]
      refine exX_mk q1 (.push _ _) ?_
      simp [okFn_low, hp1, e1, ho]
      refine exX_mk q2 (.push _ _) ?_
      simp [hp2] at e2 q3 ⊢
      simp [e2, ho, hi, okFn_low]
      refine exX_mk q3 (by have := Ext.push (H' ++ [AObj.row (os.map (.int .i64)) 0 os.length false, AObj.row (is.map (.int .i64)) 0 is.length false]) [AObj.row (nx.map (.int .i64)) 0 nx.length false]; simpa using this) ?_
      simp
      apply hK'; clear hK' K q1 q2 q3 e1 e2 hEa hEb
      have hE3 : Ext H' (H' ++ [AObj.row (os.map (.int .i64)) 0 os.length false, AObj.row (is.map (.int .i64)) 0 is.length false, AObj.row (nx.map (.int .i64)) 0 nx.length false]) := .push _ _
      have hrx : (H' ++ [AObj.row (os.map (.int .i64)) 0 os.length false, AObj.row (is.map (.int .i64)) 0 is.length false, AObj.row (nx.map (.int .i64)) 0 nx.length false])[H'.length + 2]? = some (.row (nx.map (.int .i64)) 0 nx.length false) := by simp
      generalize H' ++ [AObj.row (os.map (.int .i64)) 0 os.length false, AObj.row (is.map (.int .i64)) 0 is.length false, AObj.row (nx.map (.int .i64)) 0 nx.length false] = H3 at *
      have hpush : Ext H3 (H3 ++ [AObj.row [.slice (some (H'.length + 2)) 0 nx.length 0 1 false] 0 1 false]) := .push _ _
      have hap := rnd_append (w := .slice (some (H'.length + 2)) 0 nx.length 0 1 false) (m := 1) (hE3.row hrow) rfl (by omega)
      have hl' := lt_of_row hrow
      have hle' := hE.1
      obtain ⟨Hn, hHn⟩ : ∃ Hn, Hn = (H3 ++ [AObj.row [.slice (some (H'.length + 2)) 0 nx.length 0 1 false] 0 1 false]).set r9 (.row (rs ++ [.slice (some (H'.length + 2)) 0 nx.length 0 1 false]) (ver9 + 1) (min s9 rs.length) false) := ⟨_, rfl⟩
      rw [← hHn] at hap
      have hrow5 : Hn[r9]? = some (.row (rs ++ [.slice (some (H'.length + 2)) 0 nx.length 0 1 false]) (ver9 + 1) (min s9 rs.length) false) := by rw [hHn]; exact get_set ((hE3.trans hpush).row hrow)
      have hKn : KeepX r9 H' Hn := by rw [hHn]; exact (((KeepX.refl r9 H').ext hE3).ext hpush).set _
      have hKa : KeepX r9 H3 Hn := by rw [hHn]; exact ((KeepX.refl r9 _).ext hpush).set _
      have hK4 : KeepX r9 H2 Hn := by rw [hHn]; exact ((hK.ext hE3).ext hpush).set _
      have hEn : Ext H Hn := by rw [hHn]; exact ((hE.trans hE3).trans hpush).set _ hr9'
      have hrx2 : Hn[H'.length + 2]? = some (.row (nx.map (.int .i64)) 0 nx.length false) := hKa.row (by omega) hrx
      have hels' := (hel.keep hKn).push (r' := H'.length + 2) (ver := 0) (s := nx.length) (m := nx) (by omega) (by omega) hrx2
      clear hHn
      refine L_reg [0, 1, 2, 9] (fun K hK => ?_)
      simp [hap]
      apply hK; clear hK K
      rw [ho', hi'] at hl
      rw [ho'] at hbd
      simp only [List.length_cons] at hl hbd
      exact ⟨os'.length, [.slice (some (H'.length + 2)) 0 nx.length 0 1 false, .slice (some r9) 0 (rs.length + 1) (ver9 + 1) 1 false], by rw [ho']; simp, by simp, ver9 + 1, min s9 rs.length, pre ++ [cur], nx, os', is', _, _, rfl, by omega, by simp; omega, hnx, hst1, hst2, by rw [hw]; simp, hrow5, hels', hK4, hEn, LsX.row hrx2 (by omega), by simp⟩
end Go.Proofs.Ytpdcmdmhamnndaa
