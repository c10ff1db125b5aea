/- Wrappers by numbers; lists that are equal. -/
import Derived.Test.YtjfmiohgkcjdnaaMade
namespace Go.Proofs.Ytjfmiohgkcjdnaa
open Go Go.Proofs.Ytjfmiohgkcjdnaa.AX

/-- Turns of a wrapper by numbers. -/
def mM (a : Nat) : Nat := 1 + a % 100
def mS (a b : Nat) : Nat := b % mM a
def mT (a b c : Nat) : Nat := 1 + c % per (mM a) (mS a b)
theorem mM_ok (a : Nat) : 1 ≤ mM a ∧ mM a ≤ 100 := by unfold mM; omega
theorem mS_ok (a b : Nat) : mS a b < mM a := Nat.mod_lt _ (by have := mM_ok a; omega)
theorem mT_ok (a b c : Nat) : 1 ≤ mT a b c ∧ mT a b c ≤ per (mM a) (mS a b) := by
  have h := per_pos (m := mM a) (s := mS a b) (by have := mM_ok a; omega)
  have := Nat.mod_lt c h
  unfold mT; omega
theorem box3u (H : AH) (m s t : Int) : ∃ H1, H ++ [AObj.row [.int .u8 m, .int .u8 s, .int .u8 t] 0 0 false] = H1 ∧ Ext H H1 ∧ H.length < H1.length ∧ H1[H.length]? = some (.row [.int .u8 m, .int .u8 s, .int .u8 t] 0 0 false) ∧ ld H1 H.length 0 0 = some (.int .u8 m) ∧ ld H1 H.length 1 0 = some (.int .u8 s) ∧ ld H1 H.length 2 0 = some (.int .u8 t) ∧ ldn H1 H.length 0 3 0 = some [.int .u8 m, .int .u8 s, .int .u8 t] := by
  refine ⟨_, rfl, .push _ _, by simp, by simp, ?_, ?_, ?_, ?_⟩
  · rw [ld_row (c := [.int .u8 m, .int .u8 s, .int .u8 t]) (s := 0) (ro := false) (by simp)]; rfl
  · rw [ld_row (c := [.int .u8 m, .int .u8 s, .int .u8 t]) (s := 0) (ro := false) (by simp)]; rfl
  · rw [ld_row (c := [.int .u8 m, .int .u8 s, .int .u8 t]) (s := 0) (ro := false) (by simp)]; rfl
  · rw [ldn_row (c := [.int .u8 m, .int .u8 s, .int .u8 t]) (s := 0) (ro := false) (by simp)]; rfl
theorem tmodN (a b : Nat) : ((a : Int)).tmod b = ((a % b : Nat) : Int) := by rw [Int.tmod_eq_emod_of_nonneg (by omega)]; rfl
set_option maxRecDepth 100000 in
theorem made_ac0 (a b c : Nat) (ha : a < 256) (hb : b < 256) (hc : c < 256) (H : AH) (Q : AV → AH → Prop) (h : ∀ H', Ext H H' → Q (WV (mM a) (mS a b) (mT a b c)) H') : AC Try.prog 45 [.agg [.int .u8 a, .int .u8 b, .int .u8 c], .int .i64 100] H Q := by
  refine L_body 32 Try.func45 rfl rfl ?_
  obtain ⟨H1, e, hE, hl1, r1, l0, l1, l2, la⟩ := box3u H a b c
  obtain ⟨I23, hI23, hz23⟩ := zeroT_some zt23
  obtain ⟨H2, e2, hE2, hl2, r2, -⟩ := box3 H1 0 0 0
  have e12 : H ++ [AObj.row [.int .u8 a, .int .u8 b, .int .u8 c] 0 0 false, AObj.row [.int .i64 0, .int .i64 0, .int .i64 0] 0 0 false] = H2 := by rw [← e2, ← e, List.append_assoc]; rfl
  have hp1 : H.length + 1 = H1.length := by rw [← e]; simp
  refine L_reg [1, 2, 4] (fun K hK => ?_)
  simp [AV.isU, acells, hI23, hz23]
  apply hK; clear hK K
  rw [e12]
  simp only [hp1]
  generalize hp : H.length = p at *
  generalize hq : H1.length = q at *
  have hm := mM_ok a
  have hs := mS_ok a b
  have ht := mT_ok a b c
  have k0 := hE2.ld l0
  have k1 := hE2.ld l1
  have k2 := hE2.ld l2
  have hEH2 := hE.trans hE2
  have d1 : ((a : Int)).tmod 100 = ((a % 100 : Nat) : Int) := tmodN a 100
  have d1' : (1 : Int) + ((a % 100 : Nat) : Int) = ((mM a : Nat) : Int) := by unfold mM; omega
  generalize a % 100 = x at d1 d1'
  generalize hmm : mM a = m at *
  refine L_reg [2, 4, 5] (fun K hK => ?_)
  simp [k0, wrap_i64 (a := (a : Int)) (by omega), d1, d1', wrap_i64 (a := (m : Int)) (by omega), hI23, hz23, newW]
  apply hK; clear hK K
  obtain ⟨H3, e3, hE3, hl3, r3, b3⟩ := box3 H2 m 0 0
  rw [e3]
  generalize hw : H2.length = w at *
  have j1 := hE3.ld k1
  have j2 := hE3.ld k2
  have hmne : m ≠ 0 := by omega
  have d2 : ((b : Int)).tmod m = ((mS a b : Nat) : Int) := by rw [tmodN]; unfold mS; rw [hmm]
  generalize hss : mS a b = s at *
  refine L_reg [2, 4, 5] (fun K hK => ?_)
  simp [j1, b3.l0, wrap_i64 (a := (b : Int)) (by omega), hmne, d2, setS r3]
  apply hK; clear hK K
  have r4 := get_set (o' := AObj.row [.int .i64 m, .int .i64 s, .int .i64 0] 0 (min 0 1) false) r3
  have hO : ∀ j, j ≠ w → (H3.set w (AObj.row [.int .i64 m, .int .i64 s, .int .i64 0] 0 (min 0 1) false))[j]? = H3[j]? := fun j hj => set_ne (Ne.symm hj)
  have hl4 : (H3.set w (AObj.row [.int .i64 m, .int .i64 s, .int .i64 0] 0 (min 0 1) false)).length = H3.length := by simp
  simp only [Nat.zero_min] at r4 hO hl4 ⊢
  generalize H3.set w (AObj.row [.int .i64 m, .int .i64 s, .int .i64 0] 0 0 false) = H4 at r4 hO hl4 ⊢
  have b4 := Bx.row r4
  have r1' : H4[p]? = some (.row [.int .u8 a, .int .u8 b, .int .u8 c] 0 0 false) := by rw [hO _ (by omega)]; exact hE3.row (hE2.row r1)
  have i2 : ld H4 p 2 0 = some (.int .u8 c) := by rw [ld_row r1']; rfl
  have hpp := per_pos (m := m) (s := s) (by omega)
  have hpm := per_le m s
  have d3 : ((c : Int)).tmod (per m s : Nat) = ((c % per m s : Nat) : Int) := tmodN c _
  have d3' : (1 : Int) + ((c % per m s : Nat) : Int) = ((mT a b c : Nat) : Int) := by unfold mT; rw [hmm, hss]; omega
  generalize c % per m s = y at d3 d3'
  generalize mT a b c = t at *
  have hpne : per m s ≠ 0 := by omega
  have hst := setT r4 (t : Int)
  refine L_regW mixed 11 [4, 5] (by kernel_rfl) (fun K hK => ?_)
  simp [okFn_low, i2, b4.l0, b4.l1, wrap_i64 (a := (c : Int)) (by omega)]
  refine exX_mk (fun Q hQ => diff_ac m s hm.1 hm.2 hs H4 Q hQ) (.refl _) ?_
  simp [hpne, d3, d3', wrap_i64 (a := (t : Int)) (by omega), hst]
  apply hK; clear hK K
  have r5 := get_set (o' := AObj.row [.int .i64 m, .int .i64 s, .int .i64 t] 0 (min 0 2) false) r4
  have r2' : (H4.set w (AObj.row [.int .i64 m, .int .i64 s, .int .i64 t] 0 (min 0 2) false))[q]? = some (.row [.int .i64 0, .int .i64 0, .int .i64 0] 0 0 false) := by rw [set_ne (by omega), hO _ (by omega)]; exact hE3.row r2
  have hE5 : Ext H (H4.set w (AObj.row [.int .i64 m, .int .i64 s, .int .i64 t] 0 (min 0 2) false)) := ⟨by simp; have := hEH2.1; have := hE3.1; omega, fun j hj => by rw [set_ne (by omega), hO _ (by omega), hE3.2 j (by omega), hEH2.2 j hj]⟩
  simp only [Nat.zero_min] at r5 r2' hE5 ⊢
  generalize H4.set w (AObj.row [.int .i64 m, .int .i64 s, .int .i64 t] 0 0 false) = H5 at r5 r2' hE5 ⊢
  refine L_reg [4] (fun K hK => ?_)
  simp [(Bx.row r5).la, setW r2']
  apply hK; clear hK K
  refine L_ret ⟨.inr rfl, _, ?_, h _ (hE5.set _ (by omega))⟩
  refine res_cell rfl ?_
  simp [(Bx.row (get_set r2')).la, WV]
theorem made_ac (a b c : Nat) (ha : a < 256) (hb : b < 256) (hc : c < 256) (H : AH) (Q : AV → AH → Prop) (h : Q (WV (mM a) (mS a b) (mT a b c)) H) : AC Try.prog 45 [.agg [.int .u8 a, .int .u8 b, .int .u8 c], .int .i64 100] H Q :=
  AC.quiet (by simp [belB, WV]) (fun Q h => made_ac0 a b c ha hb hc H Q h) Q h
theorem same_ac (u v : AV) (l m : List Int) (H : AH) (Q : AV → AH → Prop) (hlen : l.length ≤ 1000000) (hu : Ls H u l) (hv : Ls H v m) (h : Q (.bool (decide (l = m))) H) : AC Try.prog 35 [u, v] H Q := by
  obtain ⟨r, off, ver, sz, full, rfl, hld⟩ := hu
  obtain ⟨r2, off2, ver2, sz2, full2, rfl, hld2⟩ := hv
  refine L_body 26 Try.func35 rfl rfl ?_
  refine L_reg [0, 1] (fun K hK => ?_)
  simp
  apply hK; clear hK K
  refine L_reg [0, 1, 10] (fun K hK => ?_)
  simp
  apply hK; clear hK K
  refine L_split rfl (fun hne => ?_) (fun he => ?_)
  · have hd : l ≠ m := by
      rintro rfl
      simp at hne
    rw [decide_eq_false hd] at h
    refine L_reg [4] (fun K hK => ?_)
    simp
    apply hK; clear hK K
    exact L_ret ⟨.inr rfl, _, rfl, h⟩
  have hlm : l.length = m.length := by
    have : (l.length : Int) = m.length := by simpa using he
    omega
  refine L_reg [0, 1, 5] (fun K hK => ?_)
  simp
  apply hK; clear hK K
  refine L_block (L_loopV [5] (fun k vs H' => ∃ i : Nat, k = l.length - i ∧ i ≤ l.length ∧ (∀ j, j < i → l[j]? = m[j]?) ∧ vs = [.int .i64 i] ∧ H = H') _ [.int .i64 (0 : Nat)] rfl ⟨0, rfl, by omega, fun j hj => by omega, rfl, rfl⟩ ?_)
  rintro k _ _ ⟨i, rfl, hi, hsame, rfl, rfl⟩
  refine L_reg [0, 1, 5, 14] (fun K hK => ?_)
  simp
  apply hK; clear hK K
  refine L_dec (i < l.length) (by simp) (fun hlt => ?_) (fun hge => L_exit ?_)
  · obtain ⟨r', rfl, rfl, hrd⟩ := hld i hlt
    have hlt2 : i < m.length := by omega
    obtain ⟨r3, rfl, rfl, hrd2⟩ := hld2 i hlt2
    refine L_block ?_
    refine L_regQ mixed [0, 1, 5, 25] (by kernel_rfl) (fun K hK => ?_)
    simp [hlt, hlt2, hrd, hrd2]
    apply hK; clear hK K
    refine L_split rfl (fun hne => ?_) (fun he => ?_)
    · have hd : l ≠ m := by
        rintro rfl
        simp at hne
      rw [decide_eq_false hd] at h
      refine L_reg [4] (fun K hK => ?_)
      simp
      apply hK; clear hK K
      exact L_ret ⟨.inr rfl, _, rfl, h⟩
    · have heq : l[i] = m[i] := by simpa using he
      refine L_reg [0, 1, 5] (fun K hK => ?_)
      simp [wrap_i64 (a := (i : Int) + 1) (by omega)]
      apply hK; clear hK K
      refine ⟨l.length - (i + 1), [.int .i64 (i + 1 : Nat)], by omega, by simp, i + 1, rfl, by omega, fun j hj => ?_, rfl, rfl⟩
      by_cases e : j = i
      · subst e; simp [hlt, hlt2, heq]
      · exact hsame j (by omega)
  · have hd : l = m := by
      apply List.ext_getElem?
      intro j
      by_cases hj : j < l.length
      · exact hsame j (by omega)
      · rw [List.getElem?_eq_none (by omega), List.getElem?_eq_none (by omega)]
    rw [decide_eq_true hd] at h
    refine L_reg [4] (fun K hK => ?_)
    simp
    apply hK; clear hK K
    exact L_ret ⟨.inr rfl, _, rfl, h⟩
end Go.Proofs.Ytjfmiohgkcjdnaa
