/- Wrappers by numbers; how many marks are met; marks; lists that are equal. -/
import Derived.Test.YtjfmiohgkcjdnaaCe
namespace Go.Proofs.Ytjfmiohgkcjdnaa
open Go Go.Proofs.Ytjfmiohgkcjdnaa.AX

theorem lookup_none {x : Int} : ∀ {l : List (Int × AV)}, (∀ p ∈ l, x ≠ p.1) → l.lookup x = none
  | [], _ => rfl
  | p :: l, h => by
    have h1 : (x == p.1) = false := by simpa using h p (by simp)
    rw [List.lookup_cons, h1]; exact lookup_none fun q hq => h q (by simp [hq])
theorem putL_new {x : Int} {v : AV} : ∀ {l : List (Int × AV)}, (∀ p ∈ l, x ≠ p.1) → putL x v l = l ++ [(x, v)]
  | [], _ => rfl
  | p :: l, h => by
    have h1 : (x == p.1) = false := by simpa using h p (by simp)
    simp only [putL, h1, Bool.false_eq_true, if_false, List.cons_append]
    rw [putL_new fun q hq => h q (by simp [hq])]
def metL (m s k : Nat) : List (Int × AV) := (List.range k).map fun (j : Nat) => (((j * s % m : Nat) : Int), AV.bool true)
theorem metL_ne {m s k : Nat} (hm : 0 < m) (hk : k < per m s) : ∀ p ∈ metL m s k, ((k * s % m : Nat) : Int) ≠ p.1 := by
  intro p hp
  simp only [metL, List.mem_map, List.mem_range] at hp
  obtain ⟨j, hj, rfl⟩ := hp
  intro e
  have := mark_inj hm hk (show j < per m s by omega) (Int.natCast_inj.1 e)
  omega
theorem metL_zero {m s k : Nat} (hk : 0 < k) : (metL m s k).lookup 0 = some (.bool true) := by
  obtain ⟨k, rfl⟩ : ∃ k', k = k' + 1 := ⟨k - 1, by omega⟩
  have : metL m s (k + 1) = (((0 * s % m : Nat) : Int), AV.bool true) :: ((List.range k).map Nat.succ).map fun (j : Nat) => (((j * s % m : Nat) : Int), AV.bool true) := by
    unfold metL; rw [List.range_succ_eq_map]; rfl
  rw [this, List.lookup_cons]
  simp
theorem metL_succ (m s k : Nat) : metL m s (k + 1) = metL m s k ++ [(((k * s % m : Nat) : Int), AV.bool true)] := by
  unfold metL; rw [List.range_succ, List.map_append]; rfl
theorem step_mark (m s k : Nat) : (k * s % m + s) % m = (k + 1) * s % m := by rw [Nat.mod_add_mod, Nat.add_mul, Nat.one_mul]
set_option maxRecDepth 100000 in
theorem diff_ac0 (m s : Nat) (h1 : 1 ≤ m) (h2 : m ≤ 100) (h3 : s < m) (H : AH) (Q : AV → AH → Prop) (h : ∀ H', Ext H H' → Q (.int .i64 (per m s : Nat)) H') : AC Try.prog 49 [.int .i64 m, .int .i64 s] H Q := by
  refine L_body 23 Try.func49 rfl rfl ?_
  refine L_reg [0, 1] (fun K hK => ?_)
  simp
  apply hK; clear hK K
  refine L_reg [0, 1, 5] (fun K hK => ?_)
  simp
  apply hK; clear hK K
  refine L_reg [0, 1, 5, 6, 7] (fun K hK => ?_)
  simp [make_I mt93]
  apply hK; clear hK K
  have hM : MapI (H ++ [AObj.map (mapL [])]) H.length (metL m s 0) := by simp [MapI, metL]
  have hE := Ext.push H [AObj.map (mapL [])]
  generalize H ++ [AObj.map (mapL [])] = H1 at hM hE ⊢
  generalize hq : H.length = q at *
  have hpp := per_pos (m := m) (s := s) (by omega)
  have hpm := per_le m s
  refine L_block (L_loopV [5, 6] (fun n vs H' => ∃ k : Nat, n = per m s - k ∧ k ≤ per m s ∧ vs = [.int .i64 k, .int .i64 (k * s % m : Nat)] ∧ MapI H' q (metL m s k) ∧ Ext H H') _ [.int .i64 (0 : Nat), .int .i64 (0 : Nat)] rfl ⟨0, rfl, by omega, by simp, hM, hE⟩ ?_)
  clear hM hE H1
  rintro n _ H1 ⟨k, rfl, hk, rfl, hM, hE⟩
  have hml : k * s % m < m := Nat.mod_lt _ (by omega)
  by_cases hlt : k < per m s
  · have hne := metL_ne (by omega) hlt
    have hlook := look_I (ok := false) mt93 hM (k := ((k * s % m : Nat) : Int))
    rw [lookup_none hne] at hlook
    have hput := put_I mt93 hM (k := ((k * s % m : Nat) : Int)) (v := .bool true)
    rw [putL_new hne, ← metL_succ] at hput
    have hst := step_mark m s k
    generalize k * s % m = w at hlook hput hst hml
    refine L_reg [0, 1, 5, 6, 7, 12] (fun K hK => ?_)
    simp [hlook, lookV]
    apply hK; clear hK K
    refine L_true rfl ?_
    refine L_block ?_
    refine L_reg [0, 1, 5, 6, 7] (fun K hK => ?_)
    simp [hput]
    apply hK; clear hK K
    refine L_reg [0, 1, 5, 6, 7] (fun K hK => ?_)
    simp [wrap_i64 (a := (k : Int) + 1) (by omega)]
    apply hK; clear hK K
    have hne : m ≠ 0 := by omega
    have e2 : ((w : Int) + s).tmod m = (((k + 1) * s % m : Nat) : Int) := by
      rw [show (w : Int) + s = ((w + s : Nat) : Int) by omega, Int.tmod_eq_emod_of_nonneg (by omega), ← hst]; rfl
    generalize hw2 : (k + 1) * s % m = w2 at e2
    refine L_reg [0, 1, 5, 6, 7] (fun K hK => ?_)
    simp [hne, wrap_i64 (a := (w : Int) + s) (by omega), e2]
    apply hK; clear hK K
    refine ⟨per m s - (k + 1), [.int .i64 (k + 1 : Nat), .int .i64 w2], by omega, by simp, k + 1, rfl, by omega, by rw [hw2], ?_, hE.set _ (by omega)⟩
    have hql := (List.getElem?_eq_some_iff.1 hM).1
    simp [MapI, hql]
  · have hk' : k = per m s := by omega
    have hz : k * s % m = 0 := (per_dvd (by omega)).2 (by rw [hk']; exact Nat.dvd_refl _)
    have hlook := look_I (ok := false) mt93 hM (k := ((k * s % m : Nat) : Int))
    rw [hz] at hlook
    rw [show ((0 : Nat) : Int) = 0 from rfl, metL_zero (by omega)] at hlook
    rw [hz]
    refine L_reg [0, 1, 5, 6, 7, 12] (fun K hK => ?_)
    simp [hlook, lookV]
    apply hK; clear hK K
    refine L_false rfl (L_exit ?_)
    refine L_reg [4] (fun K hK => ?_)
    simp
    apply hK; clear hK K
    exact L_ret ⟨.inr rfl, _, rfl, by rw [hk']; exact h _ hE⟩
theorem diff_ac (m s : Nat) (h1 : 1 ≤ m) (h2 : m ≤ 100) (h3 : s < m) (H : AH) (Q : AV → AH → Prop) (h : Q (.int .i64 (per m s : Nat)) H) : AC Try.prog 49 [.int .i64 m, .int .i64 s] H Q :=
  AC.quiet (belB_int _ _ _ _) (fun Q h => diff_ac0 m s h1 h2 h3 H Q h) Q h
end Go.Proofs.Ytjfmiohgkcjdnaa

/- Wrappers by numbers; lists that are equal. -/
namespace Go.Proofs.Ytjfmiohgkcjdnaa
open Go Go.Proofs.Ytjfmiohgkcjdnaa.AX

/-- Turns of a wrapper by numbers. -/
def mM (a : Nat) : Nat := 1 + a % 100
def mS (a b : Nat) : Nat := b % mM a
def mT (a b c : Nat) : Nat := 1 + c % per (mM a) (mS a b)
theorem mM_ok (a : Nat) : 1 ≤ mM a ∧ mM a ≤ 100 := by unfold mM; omega
theorem mS_ok (a b : Nat) : mS a b < mM a := Nat.mod_lt _ (by have := mM_ok a; omega)
theorem mT_ok (a b c : Nat) : 1 ≤ mT a b c ∧ mT a b c ≤ per (mM a) (mS a b) := by
  have h := per_pos (m := mM a) (s := mS a b) (by have := mM_ok a; omega)
  have := Nat.mod_lt c h
  unfold mT; omega
theorem box3u (H : AH) (m s t : Int) : ∃ H1, H ++ [AObj.row [.int .u8 m, .int .u8 s, .int .u8 t] 0 0 false] = H1 ∧ Ext H H1 ∧ H.length < H1.length ∧ H1[H.length]? = some (.row [.int .u8 m, .int .u8 s, .int .u8 t] 0 0 false) ∧ ld H1 H.length 0 0 = some (.int .u8 m) ∧ ld H1 H.length 1 0 = some (.int .u8 s) ∧ ld H1 H.length 2 0 = some (.int .u8 t) ∧ ldn H1 H.length 0 3 0 = some [.int .u8 m, .int .u8 s, .int .u8 t] := by
  refine ⟨_, rfl, .push _ _, by simp, by simp, ?_, ?_, ?_, ?_⟩
  · rw [ld_row (c := [.int .u8 m, .int .u8 s, .int .u8 t]) (s := 0) (ro := false) (by simp)]; rfl
  · rw [ld_row (c := [.int .u8 m, .int .u8 s, .int .u8 t]) (s := 0) (ro := false) (by simp)]; rfl
  · rw [ld_row (c := [.int .u8 m, .int .u8 s, .int .u8 t]) (s := 0) (ro := false) (by simp)]; rfl
  · rw [ldn_row (c := [.int .u8 m, .int .u8 s, .int .u8 t]) (s := 0) (ro := false) (by simp)]; rfl
theorem tmodN (a b : Nat) : ((a : Int)).tmod b = ((a % b : Nat) : Int) := by rw [Int.tmod_eq_emod_of_nonneg (by omega)]; rfl
set_option maxRecDepth 100000 in
theorem made_ac0 (a b c : Nat) (ha : a < 256) (hb : b < 256) (hc : c < 256) (H : AH) (Q : AV → AH → Prop) (h : ∀ H', Ext H H' → Q (WV (mM a) (mS a b) (mT a b c)) H') : AC Try.prog 45 [.agg [.int .u8 a, .int .u8 b, .int .u8 c], .int .i64 100] H Q := by
  refine L_body 32 Try.func45 rfl rfl ?_
  obtain ⟨H1, e, hE, hl1, r1, l0, l1, l2, la⟩ := box3u H a b c
  obtain ⟨I23, hI23, hz23⟩ := zeroT_some zt23
  obtain ⟨H2, e2, hE2, hl2, r2, -⟩ := box3 H1 0 0 0
  have e12 : H ++ [AObj.row [.int .u8 a, .int .u8 b, .int .u8 c] 0 0 false, AObj.row [.int .i64 0, .int .i64 0, .int .i64 0] 0 0 false] = H2 := by rw [← e2, ← e, List.append_assoc]; rfl
  have hp1 : H.length + 1 = H1.length := by rw [← e]; simp
  refine L_reg [1, 2, 4] (fun K hK => ?_)
  simp [AV.isU, acells, hI23, hz23]
  apply hK; clear hK K
  rw [e12]
  simp only [hp1]
  generalize hp : H.length = p at *
  generalize hq : H1.length = q at *
  have hm := mM_ok a
  have hs := mS_ok a b
  have ht := mT_ok a b c
  have k0 := hE2.ld l0
  have k1 := hE2.ld l1
  have k2 := hE2.ld l2
  have hEH2 := hE.trans hE2
  have d1 : ((a : Int)).tmod 100 = ((a % 100 : Nat) : Int) := tmodN a 100
  have d1' : (1 : Int) + ((a % 100 : Nat) : Int) = ((mM a : Nat) : Int) := by unfold mM; omega
  generalize a % 100 = x at d1 d1'
  generalize hmm : mM a = m at *
  refine L_reg [2, 4, 5] (fun K hK => ?_)
  simp [k0, wrap_i64 (a := (a : Int)) (by omega), d1, d1', wrap_i64 (a := (m : Int)) (by omega), hI23, hz23, newW]
  apply hK; clear hK K
  obtain ⟨H3, e3, hE3, hl3, r3, b3⟩ := box3 H2 m 0 0
  rw [e3]
  generalize hw : H2.length = w at *
  have j1 := hE3.ld k1
  have j2 := hE3.ld k2
  have hmne : m ≠ 0 := by omega
  have d2 : ((b : Int)).tmod m = ((mS a b : Nat) : Int) := by rw [tmodN]; unfold mS; rw [hmm]
  generalize hss : mS a b = s at *
  refine L_reg [2, 4, 5] (fun K hK => ?_)
  simp [j1, b3.l0, wrap_i64 (a := (b : Int)) (by omega), hmne, d2, setS r3]
  apply hK; clear hK K
  have r4 := get_set (o' := AObj.row [.int .i64 m, .int .i64 s, .int .i64 0] 0 (min 0 1) false) r3
  have hO : ∀ j, j ≠ w → (H3.set w (AObj.row [.int .i64 m, .int .i64 s, .int .i64 0] 0 (min 0 1) false))[j]? = H3[j]? := fun j hj => set_ne (Ne.symm hj)
  have hl4 : (H3.set w (AObj.row [.int .i64 m, .int .i64 s, .int .i64 0] 0 (min 0 1) false)).length = H3.length := by simp
  simp only [Nat.zero_min] at r4 hO hl4 ⊢
  generalize H3.set w (AObj.row [.int .i64 m, .int .i64 s, .int .i64 0] 0 0 false) = H4 at r4 hO hl4 ⊢
  have b4 := Bx.row r4
  have r1' : H4[p]? = some (.row [.int .u8 a, .int .u8 b, .int .u8 c] 0 0 false) := by rw [hO _ (by omega)]; exact hE3.row (hE2.row r1)
  have i2 : ld H4 p 2 0 = some (.int .u8 c) := by rw [ld_row r1']; rfl
  have hpp := per_pos (m := m) (s := s) (by omega)
  have hpm := per_le m s
  have d3 : ((c : Int)).tmod (per m s : Nat) = ((c % per m s : Nat) : Int) := tmodN c _
  have d3' : (1 : Int) + ((c % per m s : Nat) : Int) = ((mT a b c : Nat) : Int) := by unfold mT; rw [hmm, hss]; omega
  generalize c % per m s = y at d3 d3'
  generalize mT a b c = t at *
  have hpne : per m s ≠ 0 := by omega
  have hst := setT r4 (t : Int)
  refine L_regW mixed 11 [4, 5] (by kernel_rfl) (fun K hK => ?_)
  simp [okFn_low, i2, b4.l0, b4.l1, wrap_i64 (a := (c : Int)) (by omega)]
  refine exX_mk (fun Q hQ => diff_ac m s hm.1 hm.2 hs H4 Q hQ) (.refl _) ?_
  simp [hpne, d3, d3', wrap_i64 (a := (t : Int)) (by omega), hst]
  apply hK; clear hK K
  have r5 := get_set (o' := AObj.row [.int .i64 m, .int .i64 s, .int .i64 t] 0 (min 0 2) false) r4
  have r2' : (H4.set w (AObj.row [.int .i64 m, .int .i64 s, .int .i64 t] 0 (min 0 2) false))[q]? = some (.row [.int .i64 0, .int .i64 0, .int .i64 0] 0 0 false) := by rw [set_ne (by omega), hO _ (by omega)]; exact hE3.row r2
  have hE5 : Ext H (H4.set w (AObj.row [.int .i64 m, .int .i64 s, .int .i64 t] 0 (min 0 2) false)) := ⟨by simp; have := hEH2.1; have := hE3.1; omega, fun j hj => by rw [set_ne (by omega), hO _ (by omega), hE3.2 j (by omega), hEH2.2 j hj]⟩
  simp only [Nat.zero_min] at r5 r2' hE5 ⊢
  generalize H4.set w (AObj.row [.int .i64 m, .int .i64 s, .int .i64 t] 0 0 false) = H5 at r5 r2' hE5 ⊢
  refine L_reg [4] (fun K hK => ?_)
  simp [(Bx.row r5).la, setW r2']
  apply hK; clear hK K
  refine L_ret ⟨.inr rfl, _, ?_, h _ (hE5.set _ (by omega))⟩
  refine res_cell rfl ?_
  simp [(Bx.row (get_set r2')).la, WV]
theorem made_ac (a b c : Nat) (ha : a < 256) (hb : b < 256) (hc : c < 256) (H : AH) (Q : AV → AH → Prop) (h : Q (WV (mM a) (mS a b) (mT a b c)) H) : AC Try.prog 45 [.agg [.int .u8 a, .int .u8 b, .int .u8 c], .int .i64 100] H Q :=
  AC.quiet (by simp [belB, WV]) (fun Q h => made_ac0 a b c ha hb hc H Q h) Q h
theorem same_ac (u v : AV) (l m : List Int) (H : AH) (Q : AV → AH → Prop) (hlen : l.length ≤ 1000000) (hu : Ls H u l) (hv : Ls H v m) (h : Q (.bool (decide (l = m))) H) : AC Try.prog 35 [u, v] H Q := by
  obtain ⟨r, off, ver, sz, full, rfl, hld⟩ := hu
  obtain ⟨r2, off2, ver2, sz2, full2, rfl, hld2⟩ := hv
  refine L_body 26 Try.func35 rfl rfl ?_
  refine L_reg [0, 1] (fun K hK => ?_)
  simp
  apply hK; clear hK K
  refine L_reg [0, 1, 10] (fun K hK => ?_)
  simp
  apply hK; clear hK K
  refine L_split rfl (fun hne => ?_) (fun he => ?_)
  · have hd : l ≠ m := by
      rintro rfl
      simp at hne
    rw [decide_eq_false hd] at h
    refine L_reg [4] (fun K hK => ?_)
    simp
    apply hK; clear hK K
    exact L_ret ⟨.inr rfl, _, rfl, h⟩
  have hlm : l.length = m.length := by
    have : (l.length : Int) = m.length := by simpa using he
    omega
  refine L_reg [0, 1, 5] (fun K hK => ?_)
  simp
  apply hK; clear hK K
  refine L_block (L_loopV [5] (fun k vs H' => ∃ i : Nat, k = l.length - i ∧ i ≤ l.length ∧ (∀ j, j < i → l[j]? = m[j]?) ∧ vs = [.int .i64 i] ∧ H = H') _ [.int .i64 (0 : Nat)] rfl ⟨0, rfl, by omega, fun j hj => by omega, rfl, rfl⟩ ?_)
  rintro k _ _ ⟨i, rfl, hi, hsame, rfl, rfl⟩
  refine L_reg [0, 1, 5, 14] (fun K hK => ?_)
  simp
  apply hK; clear hK K
  refine L_dec (i < l.length) (by simp) (fun hlt => ?_) (fun hge => L_exit ?_)
  · obtain ⟨r', rfl, rfl, hrd⟩ := hld i hlt
    have hlt2 : i < m.length := by omega
    obtain ⟨r3, rfl, rfl, hrd2⟩ := hld2 i hlt2
    refine L_block ?_
    refine L_regQ mixed [0, 1, 5, 25] (by kernel_rfl) (fun K hK => ?_)
    simp [hlt, hlt2, hrd, hrd2]
    apply hK; clear hK K
    refine L_split rfl (fun hne => ?_) (fun he => ?_)
    · have hd : l ≠ m := by
        rintro rfl
        simp at hne
      rw [decide_eq_false hd] at h
      refine L_reg [4] (fun K hK => ?_)
      simp
      apply hK; clear hK K
      exact L_ret ⟨.inr rfl, _, rfl, h⟩
    · have heq : l[i] = m[i] := by simpa using he
      refine L_reg [0, 1, 5] (fun K hK => ?_)
      simp [wrap_i64 (a := (i : Int) + 1) (by omega)]
      apply hK; clear hK K
      refine ⟨l.length - (i + 1), [.int .i64 (i + 1 : Nat)], by omega, by simp, i + 1, rfl, by omega, fun j hj => ?_, rfl, rfl⟩
      by_cases e : j = i
      · subst e; simp [hlt, hlt2, heq]
      · exact hsame j (by omega)
  · have hd : l = m := by
      apply List.ext_getElem?
      intro j
      by_cases hj : j < l.length
      · exact hsame j (by omega)
      · rw [List.getElem?_eq_none (by omega), List.getElem?_eq_none (by omega)]
    rw [decide_eq_true hd] at h
    refine L_reg [4] (fun K hK => ?_)
    simp
    apply hK; clear hK K
    exact L_ret ⟨.inr rfl, _, rfl, h⟩
end Go.Proofs.Ytjfmiohgkcjdnaa

/- What comes nearer: the program, and the law's own reckoning. -/
namespace Go.Proofs.Ytjfmiohgkcjdnaa
open Go Go.Proofs.Ytjfmiohgkcjdnaa.AX

def distN (m s k : Nat) : Nat := min (k * s % m) (m - k * s % m)
/-- The turns up to turn k that come nearer, and the least distance. -/
def nrS (m s : Nat) : Nat → List Int × Nat
  | 0 => ([], m)
  | k + 1 => if distN m s (k + 1) < (nrS m s k).2 then ((nrS m s k).1 ++ [((k + 1 : Nat) : Int)], distN m s (k + 1)) else nrS m s k
theorem nrS_le {m s : Nat} : ∀ k, (nrS m s k).1.length ≤ k ∧ (nrS m s k).2 ≤ m
  | 0 => by simp [nrS]
  | k + 1 => by
    have h := nrS_le (m := m) (s := s) k
    simp only [nrS]
    split
    · have : distN m s (k + 1) ≤ m := by unfold distN; omega
      simp; omega
    · omega
theorem nrS_pos {m s : Nat} (hm : 0 < m) : ∀ k, k < per m s → 0 < (nrS m s k).2
  | 0, _ => hm
  | k + 1, h => by
    have h1 := nrS_pos (s := s) hm k (by omega)
    have hne : (k + 1) * s % m ≠ 0 := by
      intro e
      have h2 : per m s ∣ k + 1 := (per_dvd hm).1 e
      have := Nat.eq_zero_of_dvd_of_lt h2 h
      omega
    have hlt : (k + 1) * s % m < m := Nat.mod_lt _ hm
    simp only [nrS]
    split
    · unfold distN; omega
    · exact h1
theorem nrS_last {m s : Nat} (hm : 0 < m) : ∃ L, (nrS m s (per m s)).1 = L ++ [((per m s : Nat) : Int)] := by
  have hp := per_pos (s := s) hm
  obtain ⟨k, hk⟩ : ∃ k, per m s = k + 1 := ⟨per m s - 1, by omega⟩
  have hz : (k + 1) * s % m = 0 := (per_dvd hm).2 (by rw [hk]; exact Nat.dvd_refl _)
  have h1 := nrS_pos (s := s) hm k (by omega)
  rw [hk]
  refine ⟨(nrS m s k).1, ?_⟩
  have : distN m s (k + 1) < (nrS m s k).2 := by unfold distN; omega
  simp only [nrS]
  rw [if_pos this]
theorem dist_ac0 (m s k : Nat) (t : Int) (h1 : 1 ≤ m) (h2 : m ≤ 100) (h3 : s < m) (hk : k ≤ 100) (H : AH) (Q : AV → AH → Prop) (h : ∀ H', Ext H H' → Q (.int .i64 (distN m s k : Nat)) H') : AC Try.prog 79 [WV m s t, .int .i64 k] H Q := by
  refine L_body 15 Try.func79 rfl rfl ?_
  refine L_reg [1, 2] (fun K hK => ?_)
  simp [AV.isU, acells, WV]
  apply hK; clear hK K
  obtain ⟨H1, e, hE, hl1, r1, b⟩ := box3 H m s t
  rw [e]
  have hks : k * s ≤ 10000 := by calc k * s ≤ 100 * 100 := Nat.mul_le_mul hk (by omega)
    _ ≤ 10000 := by decide
  have hml : k * s % m < m := Nat.mod_lt _ (by omega)
  unfold distN at h
  generalize hw : k * s % m = w at h hml
  refine L_reg [2, 5] (fun K hK => ?_)
  simp [okFn_low, b.la]
  refine mark_ac m s k t (by omega) (by omega) _ _ ?_
  simp [hw]
  apply hK; clear hK K
  refine L_reg [4] (fun K hK => ?_)
  simp [b.l0, wrap_i64 (a := (m : Int) - w) (by omega)]
  apply hK; clear hK K
  have e2 : min (w : Int) ((m : Int) - w) = ((min w (m - w) : Nat) : Int) := by omega
  exact L_ret ⟨.inr rfl, _, rfl, by rw [e2]; exact h _ hE⟩
theorem dist_ac (m s k : Nat) (t : Int) (h1 : 1 ≤ m) (h2 : m ≤ 100) (h3 : s < m) (hk : k ≤ 100) (H : AH) (Q : AV → AH → Prop) (h : Q (.int .i64 (distN m s k : Nat)) H) : AC Try.prog 79 [WV m s t, .int .i64 k] H Q :=
  AC.quiet (belB_int _ _ _ _) (fun Q h => dist_ac0 m s k t h1 h2 h3 hk H Q h) Q h
def nearR (m s : Int) : List Int := if circleE m s = 0 then (nrS m.toNat s.toNat (per m.toNat s.toNat)).1 else []
set_option maxRecDepth 100000 in
theorem Nearer_ac (m s : Int) (H : AH) (Q : AV → AH → Prop) (h : ∀ v H', OwnF H.length H' v ((nearR m s).map (.int .i64)) → Ext H H' → Q (.tuple [v, .int .i64 (circleE m s)]) H') : AC Try.prog 39 [.int .i64 m, .int .i64 s] H Q := by
  refine L_body 41 Try.func39 rfl rfl ?_
  refine L_reg [0, 1] (fun K hK => ?_)
  simp
  apply hK; clear hK K
  unfold nearR at h
  by_cases h0 : circleE m s = 0
  · simp only [h0, if_true] at h
    have hv : wholeV m s = WV m s (per m.toNat s.toNat : Nat) := by rw [wholeV, if_pos h0]
    refine L_reg [6, 7] (fun K hK => ?_)
    simp [okFn_low]
    refine whole_ac m s _ _ ?_
    simp [alloc_z zt23, hv, h0, WV, newW]
    apply hK; clear hK K
    obtain ⟨m, s, rfl, rfl, a1, a2, a3⟩ := circleE_zero h0
    obtain ⟨H1, e, hE, hl1, r1, b⟩ := box3 H m s (per m s : Nat)
    simp only [Int.toNat_natCast] at h ⊢
    rw [e]
    generalize hp : H.length = p at *
    refine L_reg [6, 7, 19] (fun K hK => ?_)
    simp
    apply hK; clear hK K
    refine L_false (by simp) ?_
    refine L_reg [6, 8] (fun K hK => ?_)
    simp
    apply hK; clear hK K
    refine L_reg [6, 8, 9] (fun K hK => ?_)
    simp [b.l0]
    apply hK; clear hK K
    refine L_reg [6, 8, 9, 10] (fun K hK => ?_)
    simp
    apply hK; clear hK K
    have hpm := per_le m s
    refine L_block (L_loopV [8, 9, 10] (fun n vs H' => ∃ (k : Nat) (v : AV), n = per m s - k ∧ k ≤ per m s ∧ vs = [v, .int .i64 (nrS m s k).2, .int .i64 ((k : Int) + 1)] ∧ OwnF H1.length H' v ((nrS m s k).1.map (.int .i64)) ∧ Ext H1 H') _ [.slice none 0 0 0 1 false, .int .i64 (m : Nat), .int .i64 1] rfl ⟨0, _, rfl, by omega, rfl, .nil _ _, .refl _⟩ ?_)
    rintro n _ H2 ⟨k, v, rfl, hk, rfl, hO, hE2⟩
    have b2 := b.ext hE2
    refine L_reg [6, 8, 9, 10, 26] (fun K hK => ?_)
    simp [b2.l2]
    apply hK; clear hK K
    have hle := nrS_le (m := m) (s := s) k
    refine L_dec ((k : Int) + 1 ≤ per m s) (by simp) (fun hlt => ?_) (fun hge => L_exit ?_)
    · refine L_block ?_
      have hsucc : nrS m s (k + 1) = if distN m s (k + 1) < (nrS m s k).2 then ((nrS m s k).1 ++ [((k + 1 : Nat) : Int)], distN m s (k + 1)) else nrS m s k := rfl
      have hdd := dist_ac m s (k + 1) (per m s : Nat) a1 a2 a3 (by omega) H2
      have hk1 : ((k + 1 : Nat) : Int) = (k : Int) + 1 := by omega
      rw [hk1] at hdd hsucc
      generalize distN m s (k + 1) = d at hdd hsucc
      generalize hnr : nrS m s k = nn at hO hle hsucc
      obtain ⟨L, nr⟩ := nn
      simp only at hO hle hsucc
      refine L_reg [6, 8, 9, 10, 11] (fun K hK => ?_)
      simp [okFn_low, b2.la]
      refine hdd _ ?_
      simp
      apply hK; clear hK K
      refine L_reg [6, 8, 9, 10, 11, 34] (fun K hK => ?_)
      simp
      apply hK; clear hK K
      refine L_dec (d < nr) (by simp) (fun hd => ?_) (fun hd => ?_)
      · rw [if_pos hd] at hsucc
        obtain ⟨v', H3, happ, hO3, hE3⟩ := ownF_append hE2 el36 el36 (x := .int .i64 ((k : Int) + 1)) (m := 1) hO rfl (by simp; omega)
        refine L_reg [6, 8, 9, 10] (fun K hK => ?_)
        simp
        apply hK; clear hK K
        refine L_reg [6, 8, 9, 10] (fun K hK => ?_)
        simp [happ]
        apply hK; clear hK K
        refine L_reg [6, 8, 9, 10] (fun K hK => ?_)
        simp [wrap_i64 (a := (k : Int) + 1 + 1) (by omega)]
        apply hK; clear hK K
        refine ⟨per m s - (k + 1), [v', .int .i64 d, .int .i64 ((k : Int) + 1 + 1)], by omega, by simp, k + 1, v', rfl, by omega, by rw [hsucc]; simp, by rw [hsucc]; simpa using hO3, hE3⟩
      · rw [if_neg hd] at hsucc
        refine L_reg [6, 8, 9, 10] (fun K hK => ?_)
        simp [wrap_i64 (a := (k : Int) + 1 + 1) (by omega)]
        apply hK; clear hK K
        refine ⟨per m s - (k + 1), [v, .int .i64 nr, .int .i64 ((k : Int) + 1 + 1)], by omega, by simp, k + 1, v, rfl, by omega, by rw [hsucc]; simp, by rw [hsucc]; exact hO, hE2⟩
    · have hk' : k = per m s := by omega
      refine L_reg [4, 5] (fun K hK => ?_)
      simp
      apply hK; clear hK K
      exact L_ret ⟨.inr rfl, _, rfl, h v H2 (by rw [← hk']; exact hO.mono (by omega)) (hE.trans hE2)⟩
  · simp only [if_neg h0] at h
    have hv : wholeV m s = WV 0 0 0 := by rw [wholeV, if_neg h0]
    refine L_reg [6, 7] (fun K hK => ?_)
    simp [okFn_low]
    refine whole_ac m s _ _ ?_
    simp [alloc_z zt23, hv, WV, newW]
    apply hK; clear hK K
    refine L_reg [6, 7, 19] (fun K hK => ?_)
    simp
    apply hK; clear hK K
    refine L_true (by simp [h0]) ?_
    refine L_reg [4, 5] (fun K hK => ?_)
    simp
    apply hK; clear hK K
    exact L_ret ⟨.inr rfl, _, rfl, h _ _ (.nil _ _) (.push _ _)⟩
end Go.Proofs.Ytjfmiohgkcjdnaa

/- WrapNearer, walked. -/
namespace Go.Proofs.Ytjfmiohgkcjdnaa
open Go Go.Proofs.Ytjfmiohgkcjdnaa.AX

set_option maxRecDepth 100000 in
theorem wrapNearer_ac (a b c : Nat) (ha : a < 256) (hb : b < 256) (hc : c < 256) (H : AH) : AC Try.prog 12 [.agg [.int .u8 a, .int .u8 b, .int .u8 c]] H fun u _ => u = .bool true := by
  refine L_body 80 Try.func12 rfl rfl ?_
  obtain ⟨H1, e, hE, hl1, r1, l0, l1, l2, la⟩ := box3u H a b c
  refine L_reg [1] (fun K hK => ?_)
  simp [AV.isU, acells]
  apply hK; clear hK K
  rw [e]
  have hm := mM_ok a
  have hs := mS_ok a b
  have ht := mT_ok a b c
  refine L_reg [3] (fun K hK => ?_)
  simp [okFn_low, la]
  refine made_ac a b c ha hb hc _ _ ?_
  generalize mM a = m at *
  generalize mS a b = s at *
  generalize mT a b c = t at *
  simp [alloc_z zt23, newW, WV]
  apply hK; clear hK K
  obtain ⟨H2, e2, hE2, hl2, r2, bx⟩ := box3 H1 m s t
  rw [e2]
  generalize hp : H1.length = p at *
  have hcz : circleE m s = 0 := by unfold circleE; rw [if_neg (by omega)]
  refine L_reg [3, 4, 5] (fun K hK => ?_)
  simp [okFn_low, bx.l0, bx.l1]
  refine Nearer_ac m s _ _ (fun v H3 hO hE3 => ?_)
  have hnR : nearR m s = (nrS m s (per m s)).1 := by unfold nearR; rw [if_pos hcz]; rfl
  rw [hnR] at hO
  rw [hcz]
  simp
  apply hK; clear hK K
  have bx3 := bx.ext hE3
  refine L_reg [3, 4, 5, 6] (fun K hK => ?_)
  simp [okFn_low, bx3.l0, bx3.l1]
  refine diff_ac m s hm.1 hm.2 hs _ _ ?_
  simp
  apply hK; clear hK K
  refine L_reg [3, 4, 5, 6, 7] (fun K hK => ?_)
  simp
  apply hK; clear hK K
  refine L_reg [3, 4, 5, 6, 7, 8] (fun K hK => ?_)
  simp [bx3.l0]
  apply hK; clear hK K
  refine L_reg [3, 4, 5, 6, 7, 8, 9] (fun K hK => ?_)
  simp
  apply hK; clear hK K
  refine L_reg [3, 4, 5, 6, 7, 8, 9, 10] (fun K hK => ?_)
  simp
  apply hK; clear hK K
  have hpm := per_le m s
  have hpp := per_pos (m := m) (s := s) (by omega)
  refine L_block (L_loopV [7, 8, 9, 10] (fun n vs H' => ∃ (k w : Nat) (u : AV), n = per m s - k ∧ k ≤ per m s ∧ w = k * s % m ∧ vs = [u, .int .i64 (nrS m s k).2, .int .i64 (w : Nat), .int .i64 ((k : Int) + 1)] ∧ OwnF H3.length H' u ((nrS m s k).1.map (.int .i64)) ∧ Ext H3 H') _ [.slice none 0 0 0 1 false, .int .i64 (m : Nat), .int .i64 0, .int .i64 1] rfl ⟨0, 0, _, rfl, by omega, by simp, by simp [nrS], .nil _ _, .refl _⟩ ?_)
  rintro n _ H4 ⟨k, w, u, rfl, hk, hwk, rfl, hO4, hE4⟩
  refine L_reg [3, 4, 5, 6, 7, 8, 9, 10, 31] (fun K hK => ?_)
  simp
  apply hK; clear hK K
  have hle := nrS_le (m := m) (s := s) k
  have bx4 := bx3.ext hE4
  refine L_dec ((k : Int) + 1 ≤ per m s) (by simp) (fun hlt => ?_) (fun hge => L_exit ?_)
  · refine L_block ?_
    have hsucc : nrS m s (k + 1) = if distN m s (k + 1) < (nrS m s k).2 then ((nrS m s k).1 ++ [((k + 1 : Nat) : Int)], distN m s (k + 1)) else nrS m s k := rfl
    have hk1 : ((k + 1 : Nat) : Int) = (k : Int) + 1 := by omega
    rw [hk1] at hsucc
    have hst := step_mark m s k
    have hml : w < m := by rw [hwk]; exact Nat.mod_lt _ (by omega)
    rw [← hwk] at hst
    have hml2 : (k + 1) * s % m < m := Nat.mod_lt _ (by omega)
    unfold distN at hsucc
    generalize hw2 : (k + 1) * s % m = w2 at *
    have hmne : m ≠ 0 := by omega
    have e2 : ((w : Int) + s).tmod m = ((w2 : Nat) : Int) := by
      rw [show (w : Int) + s = ((w + s : Nat) : Int) by omega, Int.tmod_eq_emod_of_nonneg (by omega), ← hst]; rfl
    have e3 : min (w2 : Int) ((m : Int) - w2) = ((min w2 (m - w2) : Nat) : Int) := by omega
    generalize min w2 (m - w2) = d at hsucc e3
    generalize hnr : nrS m s k = nn at hO4 hle hsucc
    obtain ⟨L, nr⟩ := nn
    simp only at hO4 hle hsucc
    refine L_reg [3, 4, 5, 6, 7, 8, 9, 10] (fun K hK => ?_)
    simp [bx4.l0, bx4.l1, wrap_i64 (a := (w : Int) + s) (by omega), hmne, e2]
    apply hK; clear hK K
    refine L_reg [3, 4, 5, 6, 7, 8, 9, 10, 11] (fun K hK => ?_)
    simp [bx4.l0, wrap_i64 (a := (m : Int) - w2) (by omega), e3]
    apply hK; clear hK K
    refine L_reg [3, 4, 5, 6, 7, 8, 9, 10, 11, 49] (fun K hK => ?_)
    simp
    apply hK; clear hK K
    refine L_dec (d < nr) (by simp) (fun hd => ?_) (fun hd => ?_)
    · rw [if_pos hd] at hsucc
      obtain ⟨v', H5, happ, hO5, hE5⟩ := ownF_append hE4 el36 el36 (x := .int .i64 ((k : Int) + 1)) (m := 1) hO4 rfl (by simp; omega)
      refine L_reg [3, 4, 5, 6, 7, 9, 10, 11] (fun K hK => ?_)
      simp [happ]
      apply hK; clear hK K
      refine L_reg [3, 4, 5, 6, 7, 8, 9, 10] (fun K hK => ?_)
      simp
      apply hK; clear hK K
      refine L_reg [3, 4, 5, 6, 7, 8, 9, 10] (fun K hK => ?_)
      simp [wrap_i64 (a := (k : Int) + 1 + 1) (by omega)]
      apply hK; clear hK K
      refine ⟨per m s - (k + 1), [v', .int .i64 d, .int .i64 w2, .int .i64 ((k : Int) + 1 + 1)], by omega, by simp, k + 1, w2, v', rfl, by omega, hw2.symm, by rw [hsucc]; simp, by rw [hsucc]; simpa using hO5, hE5⟩
    · rw [if_neg hd] at hsucc
      refine L_reg [3, 4, 5, 6, 7, 8, 9, 10] (fun K hK => ?_)
      simp [wrap_i64 (a := (k : Int) + 1 + 1) (by omega)]
      apply hK; clear hK K
      refine ⟨per m s - (k + 1), [u, .int .i64 nr, .int .i64 w2, .int .i64 ((k : Int) + 1 + 1)], by omega, by simp, k + 1, w2, u, rfl, by omega, hw2.symm, by rw [hsucc]; simp, by rw [hsucc]; exact hO4, hE4⟩
  · have hk' : k = per m s := by omega
    subst hk'
    obtain ⟨L, hL⟩ := nrS_last (m := m) (s := s) (by omega)
    have hv : Ls H4 v (nrS m s (per m s)).1 := (hO.own.ls).ext hE4
    have hu : Ls H4 u (nrS m s (per m s)).1 := hO4.own.ls
    rw [hL] at hv hu hle
    have hlen : (L ++ [((per m s : Nat) : Int)]).length = L.length + 1 := by simp
    obtain ⟨r, off, ver, sz, full, hve, hld⟩ := id hv
    subst hve
    obtain ⟨r', rfl, rfl, hrd⟩ := hld L.length (by simp)
    rw [hlen] at hv hle ⊢
    have hrd2 : ld H4 r' (off + L.length) ver = some (.int .i64 (per m s : Nat)) := by simpa using hrd
    clear hrd hld hO
    generalize hPP : L ++ [((per m s : Nat) : Int)] = PP at hv hu hle
    refine L_reg [2] (fun K hK => ?_)
    simp [okFn_low]
    refine same_ac _ _ _ _ H4 _ (by rw [← hPP]; omega) hv hu ?_
    simp [pickV, okFn_low, wrap_i64 (a := (L.length : Int)) (by omega), hrd2, show (L.length : Int) < (L.length : Int) + 1 by omega]
    refine works_ac _ _ ?_
    simp [pickV]
    apply hK; clear hK K
    exact L_ret ⟨.inr rfl, _, rfl, rfl⟩
theorem u8_nat {i : Int} (h : IntKind.u8.min ≤ i ∧ i ≤ IntKind.u8.max) : ∃ k : Nat, i = k ∧ k < 256 := by
  have e1 : IntKind.u8.min = 0 := by decide
  have e2 : IntKind.u8.max = 255 := by decide
  rw [e1, e2] at h
  exact ⟨i.toNat, by omega, by omega⟩
theorem roll_int {n : List Int} (e : n.length = 3) (b : ∀ x ∈ n, IntKind.u8.min ≤ x ∧ x ≤ IntKind.u8.max) : ∃ x y z : Nat, n = [(x : Int), (y : Int), (z : Int)] ∧ x < 256 ∧ y < 256 ∧ z < 256 := by
  match n, e with
  | [x, y, z], _ =>
    obtain ⟨x, rfl, hx⟩ := u8_nat (b x (by simp))
    obtain ⟨y, rfl, hy⟩ := u8_nat (b y (by simp))
    obtain ⟨z, rfl, hz⟩ := u8_nat (b z (by simp))
    exact ⟨x, y, z, rfl, hx, hy, hz⟩
theorem wrapNearer_int (n : List Int) (e : n.length = 3) (b : ∀ x ∈ n, IntKind.u8.min ≤ x ∧ x ≤ IntKind.u8.max) (H : AH) : AC Try.prog 12 [.agg (n.map (.int .u8))] H fun u _ => u = .bool true := by
  obtain ⟨x, y, z, rfl, hx, hy, hz⟩ := roll_int e b
  exact wrapNearer_ac x y z hx hy hz H
end Go.Proofs.Ytjfmiohgkcjdnaa

/- Quotients lead back: WrapChain, walked. -/
namespace Go.Proofs.Ytjfmiohgkcjdnaa
open Go Go.Proofs.Ytjfmiohgkcjdnaa.AX

/-- Two numbers, after i steps. -/
def eu (a b : Nat) : Nat → Nat × Nat
  | 0 => (a, b)
  | i + 1 => eu b (a % b) i
theorem eu_next (a b : Nat) : ∀ i, eu a b (i + 1) = ((eu a b i).2, (eu a b i).1 % (eu a b i).2)
  | 0 => rfl
  | i + 1 => by
    show eu b (a % b) (i + 1) = _
    rw [eu_next b (a % b) i]; rfl
theorem quos_eu : ∀ (n a b : Nat), b < n → (∀ i (h : i < (quos a b).length), (quos a b)[i] = (((eu a b i).1 / (eu a b i).2 : Nat) : Int) ∧ (eu a b i).2 ≠ 0) ∧ eu a b (quos a b).length = (Nat.gcd a b, 0) := by
  intro n
  induction n with
  | zero => intro a b h; omega
  | succ n ih =>
    intro a b h
    by_cases hb : b = 0
    · subst hb
      rw [quos_zero]
      exact ⟨fun i h => by simp at h, by simp [eu]⟩
    · have hr : a % b < b := Nat.mod_lt _ (by omega)
      obtain ⟨h1, h2⟩ := ih b (a % b) (by omega)
      rw [quos_pos a hb]
      refine ⟨fun i hi => ?_, ?_⟩
      · cases i with
        | zero => exact ⟨rfl, hb⟩
        | succ i => exact h1 i (by simpa using hi)
      · show eu b (a % b) (quos b (a % b)).length = _
        rw [h2, Nat.gcd_comm a b, Nat.gcd_rec b a, Nat.gcd_comm]
theorem eu_le (a b : Nat) (hab : b < a) : ∀ i, i ≤ (quos a b).length → (eu a b i).1 ≤ a ∧ (i < (quos a b).length → (eu a b i).2 < (eu a b i).1)
  | 0, _ => ⟨Nat.le_refl _, fun _ => hab⟩
  | i + 1, h => by
    obtain ⟨h1, h2⟩ := eu_le a b hab i (by omega)
    have hne := ((quos_eu (b + 1) a b (by omega)).1 i (by omega)).2
    have := h2 (by omega)
    rw [eu_next]
    exact ⟨by omega, fun _ => Nat.mod_lt _ (by omega)⟩
theorem quos_len : ∀ (k a b : Nat), b < 2 ^ k → b < a → (quos a b).length ≤ 2 * k
  | 0, a, b, h, _ => by
    have : b = 0 := by simpa using h
    subst this; rw [quos_zero]; simp
  | k + 1, a, b, h, hab => by
    by_cases hb : b = 0
    · subst hb; rw [quos_zero]; simp
    · rw [quos_pos a hb]
      have hr : a % b < b := Nat.mod_lt _ (by omega)
      by_cases hr0 : a % b = 0
      · rw [hr0, quos_zero]; simp; omega
      · rw [quos_pos b hr0]
        have h3 : b % (a % b) < a % b := Nat.mod_lt _ (by omega)
        have h4 : b % (a % b) + (a % b) ≤ b := by
          have := Nat.div_add_mod b (a % b)
          have h5 : 1 ≤ b / (a % b) := Nat.div_pos (by omega) (by omega)
          have h6 : (a % b) * 1 ≤ (a % b) * (b / (a % b)) := Nat.mul_le_mul_left _ h5
          omega
        have h7 : 2 ^ (k + 1) = 2 * 2 ^ k := by rw [Nat.pow_succ]; omega
        have := quos_len k (a % b) (b % (a % b)) (by omega) h3
        simp only [List.length_cons]; omega
def chainR (m s : Int) : List Int := if circleE m s = 0 then quos m.toNat s.toNat else []
theorem Chain_ac (m s : Int) (H : AH) (Q : AV → AH → Prop) (h : ∀ v H', OwnF H.length H' v ((chainR m s).map (.int .i64)) → Ext H H' → Q (.tuple [v, .int .i64 (circleE m s)]) H') : AC Try.prog 41 [.int .i64 m, .int .i64 s] H Q := by
  refine L_body 26 Try.func41 rfl rfl ?_
  refine L_reg [0, 1] (fun K hK => ?_)
  simp
  apply hK; clear hK K
  unfold chainR at h
  by_cases h0 : circleE m s = 0
  · simp only [h0, if_true] at h
    have hv : wholeV m s = WV m s (per m.toNat s.toNat : Nat) := by rw [wholeV, if_pos h0]
    refine L_reg [0, 1, 7] (fun K hK => ?_)
    simp [okFn_low]
    refine whole_ac m s _ _ ?_
    simp [alloc_z zt23, hv, h0, WV, newW]
    apply hK; clear hK K
    obtain ⟨m, s, rfl, rfl, a1, a2, a3⟩ := circleE_zero h0
    simp only [Int.toNat_natCast] at h ⊢
    have hE := Ext.push H [AObj.row [.int .i64 m, .int .i64 s, .int .i64 (per m s : Nat)] 0 0 false]
    generalize H ++ [AObj.row [.int .i64 m, .int .i64 s, .int .i64 (per m s : Nat)] 0 0 false] = H1 at hE ⊢
    refine L_reg [0, 1, 7, 17] (fun K hK => ?_)
    simp
    apply hK; clear hK K
    refine L_false (by simp) ?_
    refine L_reg [8] (fun K hK => ?_)
    simp [okFn_low]
    refine chain_ac0 m s (by omega) (by omega) _ _ (fun v H2 hO hE2 => ?_)
    simp
    apply hK; clear hK K
    refine L_reg [4, 5] (fun K hK => ?_)
    simp
    apply hK; clear hK K
    exact L_ret ⟨.inr rfl, _, rfl, h v H2 (hO.mono hE.1) (hE.trans hE2)⟩
  · simp only [if_neg h0] at h
    have hv : wholeV m s = WV 0 0 0 := by rw [wholeV, if_neg h0]
    refine L_reg [0, 1, 7] (fun K hK => ?_)
    simp [okFn_low]
    refine whole_ac m s _ _ ?_
    simp [alloc_z zt23, hv, WV, newW]
    apply hK; clear hK K
    refine L_reg [0, 1, 7, 17] (fun K hK => ?_)
    simp
    apply hK; clear hK K
    refine L_true (by simp [h0]) ?_
    refine L_reg [4, 5] (fun K hK => ?_)
    simp
    apply hK; clear hK K
    exact L_ret ⟨.inr rfl, _, rfl, h _ _ (.nil _ _) (.push _ _)⟩
set_option maxRecDepth 100000 in
theorem wrapChain_ac (a b c : Nat) (ha : a < 256) (hb : b < 256) (hc : c < 256) (H : AH) : AC Try.prog 14 [.agg [.int .u8 a, .int .u8 b, .int .u8 c]] H fun u _ => u = .bool true := by
  refine L_body 114 Try.func14 rfl rfl ?_
  obtain ⟨H1, e, hE, hl1, r1, l0, l1, l2, la⟩ := box3u H a b c
  refine L_reg [1] (fun K hK => ?_)
  simp [AV.isU, acells]
  apply hK; clear hK K
  rw [e]
  have hm := mM_ok a
  have hs := mS_ok a b
  have ht := mT_ok a b c
  refine L_reg [3] (fun K hK => ?_)
  simp [okFn_low, la]
  refine made_ac a b c ha hb hc _ _ ?_
  generalize mM a = m at *
  generalize mS a b = s at *
  generalize mT a b c = t at *
  simp [alloc_z zt23, newW, WV]
  apply hK; clear hK K
  obtain ⟨H2, e2, hE2, hl2, r2, bx⟩ := box3 H1 m s t
  rw [e2]
  generalize hp : H1.length = p at *
  have hcz : circleE m s = 0 := by unfold circleE; rw [if_neg (by omega)]
  refine L_reg [3, 4, 5] (fun K hK => ?_)
  simp [okFn_low, bx.l0, bx.l1]
  refine Chain_ac m s _ _ (fun v H3 hO hE3 => ?_)
  have hnR : chainR m s = quos m s := by unfold chainR; rw [if_pos hcz]; rfl
  rw [hnR] at hO
  rw [hcz]
  simp
  apply hK; clear hK K
  have bx3 := bx.ext hE3
  have r3 := hE3.row r2
  have hq := quos_len 7 m s (by omega) hs
  obtain ⟨hq1, hq2⟩ := quos_eu (s + 1) m s (by omega)
  have hq3 := eu_le m s hs
  have hv : Ls H3 v (quos m s) := hO.own.ls
  have hpm := per_le m s
  have hpp := per_pos (m := m) (s := s) (by omega)
  have hg : m / per m s = Nat.gcd m s := by
    unfold per
    have h1 := Nat.div_mul_cancel (Nat.gcd_dvd_left m s)
    have h2 : 0 < m / Nat.gcd m s := hpp
    exact Nat.div_eq_of_eq_mul_right h2 h1.symm
  have hlast : 1 < (quos m s).length → ∀ h : (quos m s).length - 1 < (quos m s).length, 2 ≤ (quos m s)[(quos m s).length - 1] := by
    intro h1 h2
    obtain ⟨h3, h4⟩ := hq1 _ h2
    rw [h3]
    have h5 := (hq3 ((quos m s).length - 1) (by omega)).2 (by omega)
    have h6 := eu_next m s ((quos m s).length - 1)
    rw [show (quos m s).length - 1 + 1 = (quos m s).length by omega, hq2] at h6
    have h7 : (eu m s ((quos m s).length - 1)).1 % (eu m s ((quos m s).length - 1)).2 = 0 := (congrArg Prod.snd h6).symm
    generalize (eu m s ((quos m s).length - 1)).1 = x at *
    generalize (eu m s ((quos m s).length - 1)).2 = y at *
    have h8 := Nat.div_add_mod x y
    have h9 : 2 ≤ x / y := by
      rcases Nat.lt_or_ge (x / y) 2 with h | h
      · have : y * (x / y) ≤ y * 1 := Nat.mul_le_mul_left _ (by omega)
        omega
      · exact h
    omega
  generalize hQ : quos m s = L at *
  obtain ⟨r, off, ver, sz, full, rfl, hld⟩ := hv
  have hln : L.length ≤ 14 := by omega
  refine L_reg [3, 4, 27] (fun K hK => ?_)
  simp
  apply hK; clear hK K
  refine L_false (by simp; omega) ?_
  have hper0 : per m s ≠ 0 := by omega
  have e3 : ((m : Int)).tdiv (per m s : Int) = ((Nat.gcd m s : Nat) : Int) := by
    rw [Int.tdiv_eq_ediv_of_nonneg (by omega), ← hg]; rfl
  have hgl : Nat.gcd m s ≤ m := Nat.le_of_dvd (by omega) (Nat.gcd_dvd_left m s)
  refine L_regQ mixed [3, 4, 6, 7] (by kernel_rfl) (fun K hK => ?_)
  simp [okFn_low, bx3.l0, bx3.l1]
  refine exQ_mk (fun Q hQ => diff_ac m s hm.1 hm.2 hs _ Q hQ) ?_
  simp [hper0, e3, wrap_i64 (a := ((Nat.gcd m s : Nat) : Int)) (by omega)]
  apply hK; clear hK K
  refine L_reg [3, 4, 6, 7, 8] (fun K hK => ?_)
  simp [wrap_i64 (a := (L.length : Int) - 1) (by omega)]
  apply hK; clear hK K
  refine L_block (L_loopV [6, 7, 8] (fun n vs H' => ∃ i : Nat, n = i ∧ i ≤ L.length ∧ vs = [.int .i64 ((eu m s i).1 : Nat), .int .i64 ((eu m s i).2 : Nat), .int .i64 ((i : Int) - 1)] ∧ H3 = H') _ [.int .i64 (Nat.gcd m s : Nat), .int .i64 0, .int .i64 ((L.length : Int) - 1)] rfl ⟨L.length, rfl, Nat.le_refl _, by rw [hq2]; rfl, rfl⟩ ?_)
  rintro n _ _ ⟨i, rfl, hi, rfl, rfl⟩
  refine L_reg [3, 4, 6, 7, 8, 40] (fun K hK => ?_)
  simp
  apply hK; clear hK K
  have hxi := (hq3 n hi).1
  refine L_dec ((0 : Int) ≤ (n : Int) - 1) (by simp) (fun hlt => ?_) (fun hge => L_exit ?_)
  · refine L_block ?_
    obtain ⟨j, rfl⟩ : ∃ j, n = j + 1 := ⟨n - 1, by omega⟩
    obtain ⟨r', rfl, rfl, hrd⟩ := hld j (by omega)
    have hj := hq1 j (by omega)
    have hj3 := hq3 j (by omega)
    have hj4 := hj3.2 (by omega)
    have hnx := eu_next m s j
    rw [hj.1] at hrd
    generalize heu : eu m s j = xy at *
    obtain ⟨x, y⟩ := xy
    rw [hnx] at hxi ⊢
    simp only at *
    have h8 := Nat.div_add_mod x y
    have h9 : 1 ≤ x / y := Nat.div_pos (by omega) (by omega)
    have h10 : x / y ≤ x := Nat.div_le_self _ _
    have h11 : x / y * y ≤ x := by rw [Nat.mul_comm]; omega
    have h12 : ((x / y : Nat) : Int) * y + ((x % y : Nat) : Int) = x := by
      have : ((x / y * y + x % y : Nat) : Int) = x := by rw [Nat.mul_comm]; omega
      push_cast at this
      exact this
    have h13 : ((x / y : Nat) : Int) * y ≤ 100 ∧ 0 ≤ ((x / y : Nat) : Int) * y := by
      have : ((x / y * y : Nat) : Int) = ((x / y : Nat) : Int) * y := by push_cast; rfl
      omega
    generalize x / y = qq at *
    generalize x % y = rr at *
    generalize hpq : (qq : Int) * y = pq at *
    refine L_reg [3, 4, 6, 7, 8, 58] (fun K hK => ?_)
    simp [pickV, show ((j : Int) + 1 - 1) = j by omega, hrd, show (0 : Int) ≤ j by omega, show (j : Int) < L.length by omega, show ¬ ((qq : Int) < 1) by omega, show ¬ (100 < (qq : Int)) by omega]
    apply hK; clear hK K
    refine L_false (by simp; omega) ?_
    refine L_reg [3, 4, 6, 7, 8] (fun K hK => ?_)
    simp [hrd, show (0 : Int) ≤ j by omega, show (j : Int) < L.length by omega, hpq, wrap_i64 (a := pq) (by omega), h12, wrap_i64 (a := (x : Int)) (by omega)]
    apply hK; clear hK K
    refine L_reg [3, 4, 6, 7, 8] (fun K hK => ?_)
    simp [wrap_i64 (a := (j : Int) - 1) (by omega)]
    apply hK; clear hK K
    exact ⟨j, [.int .i64 x, .int .i64 y, .int .i64 ((j : Int) - 1)], by omega, by simp, j, rfl, by omega, by rw [heu], rfl⟩
  · have hn0 : n = 0 := by omega
    subst hn0
    have he0 : eu m s 0 = (m, s) := rfl
    rw [he0]
    simp only
    refine L_reg [3, 4, 6, 7, 9] (fun K hK => ?_)
    simp
    apply hK; clear hK K
    have hck1 : checkE m s (per m s : Nat) = 0 := checkE_ok hm.1 hm.2 hs (by omega) (Nat.le_refl _)
    have hck2 : checkE m s ((per m s : Int) + 1) = 3 := by
      unfold checkE
      rw [if_neg (by omega), if_pos (by simp; omega)]
    by_cases hL1 : 1 < L.length
    · obtain ⟨r', rfl, rfl, hrd⟩ := hld (L.length - 1) (by omega)
      have h2 := hlast hL1 (by omega)
      refine L_reg [3, 6, 7, 79] (fun K hK => ?_)
      simp [pickV, wrap_i64 (a := (L.length : Int) - 1) (by omega), show ((L.length : Int) - 1).toNat = L.length - 1 by omega, hrd, show (1 : Int) ≤ L.length by omega, show (L.length : Int) - 1 < L.length by omega, show (1 : Int) < L.length by omega]
      apply hK; clear hK K
      refine L_false (by simp; omega) ?_
      refine L_reg [3, 6, 7] (fun K hK => ?_)
      simp [okFn_low, bx3.l0, bx3.l1]
      refine diff_ac m s hm.1 hm.2 hs _ _ ?_
      simp [setT r3]
      apply hK; clear hK K
      have r4 := get_set (o' := AObj.row [.int .i64 m, .int .i64 s, .int .i64 (per m s : Nat)] 0 0 false) r3
      generalize hH4 : H3.set p (AObj.row [.int .i64 m, .int .i64 s, .int .i64 (per m s : Nat)] 0 0 false) = H4 at *
      have bx4 := Bx.row r4
      refine L_reg [3, 6, 7, 10] (fun K hK => ?_)
      simp [bx4.la, alloc_z zt23, newW]
      apply hK; clear hK K
      have hE5 := Ext.push H4 [AObj.row [.int .i64 m, .int .i64 s, .int .i64 (per m s : Nat)] 0 0 false]
      have r5 : (H4 ++ [AObj.row [.int .i64 m, .int .i64 s, .int .i64 (per m s : Nat)] 0 0 false])[H4.length]? = some (AObj.row [.int .i64 m, .int .i64 s, .int .i64 (per m s : Nat)] 0 0 false) := by simp
      have bx5 := bx4.ext hE5
      generalize hp2 : H4.length = p2 at *
      generalize H4 ++ [AObj.row [.int .i64 m, .int .i64 s, .int .i64 (per m s : Nat)] 0 0 false] = H5 at *
      have b6 := Bx.row r5
      have hp12 : p2 ≠ p := by
        have h1 := (List.getElem?_eq_some_iff.1 r4).1
        omega
      refine L_reg [3, 6, 7, 10] (fun K hK => ?_)
      simp [b6.l2, setT r5, wrap_i64 (a := (per m s : Int) + 1) (by omega)]
      apply hK; clear hK K
      have r7 := get_set (o' := AObj.row [.int .i64 m, .int .i64 s, .int .i64 ((per m s : Int) + 1)] 0 0 false) r5
      have b7 := Bx.row r7
      have b8 : Bx (H5.set p2 (AObj.row [.int .i64 m, .int .i64 s, .int .i64 ((per m s : Int) + 1)] 0 0 false)) p m s (per m s : Nat) := Bx.row (st := 0) (ro := false) (by rw [set_ne hp12, hE5.row r4])
      generalize H5.set p2 (AObj.row [.int .i64 m, .int .i64 s, .int .i64 ((per m s : Int) + 1)] 0 0 false) = H7 at *
      refine L_reg [2] (fun K hK => ?_)
      simp [pickV, okFn_low, b8.l0, b8.l1, b8.la]
      refine Check_ac m s (per m s : Nat) _ _ ?_
      simp [pickV, okFn_low, b7.la, hck1]
      refine Check_ac m s ((per m s : Int) + 1) _ _ ?_
      simp [pickV, okFn_low, hck2]
      refine works_ac _ _ ?_
      simp [pickV]
      apply hK; clear hK K
      exact L_ret ⟨.inr rfl, _, rfl, rfl⟩
    · refine L_reg [3, 6, 7, 79] (fun K hK => ?_)
      simp [pickV, show ¬ ((1 : Int) < L.length) by omega]
      apply hK; clear hK K
      refine L_false (by simp) ?_
      refine L_reg [3, 6, 7] (fun K hK => ?_)
      simp [okFn_low, bx3.l0, bx3.l1]
      refine diff_ac m s hm.1 hm.2 hs _ _ ?_
      simp [setT r3]
      apply hK; clear hK K
      have r4 := get_set (o' := AObj.row [.int .i64 m, .int .i64 s, .int .i64 (per m s : Nat)] 0 0 false) r3
      generalize hH4 : H3.set p (AObj.row [.int .i64 m, .int .i64 s, .int .i64 (per m s : Nat)] 0 0 false) = H4 at *
      have bx4 := Bx.row r4
      refine L_reg [3, 6, 7, 10] (fun K hK => ?_)
      simp [bx4.la, alloc_z zt23, newW]
      apply hK; clear hK K
      have hE5 := Ext.push H4 [AObj.row [.int .i64 m, .int .i64 s, .int .i64 (per m s : Nat)] 0 0 false]
      have r5 : (H4 ++ [AObj.row [.int .i64 m, .int .i64 s, .int .i64 (per m s : Nat)] 0 0 false])[H4.length]? = some (AObj.row [.int .i64 m, .int .i64 s, .int .i64 (per m s : Nat)] 0 0 false) := by simp
      have bx5 := bx4.ext hE5
      generalize hp2 : H4.length = p2 at *
      generalize H4 ++ [AObj.row [.int .i64 m, .int .i64 s, .int .i64 (per m s : Nat)] 0 0 false] = H5 at *
      have b6 := Bx.row r5
      have hp12 : p2 ≠ p := by
        have h1 := (List.getElem?_eq_some_iff.1 r4).1
        omega
      refine L_reg [3, 6, 7, 10] (fun K hK => ?_)
      simp [b6.l2, setT r5, wrap_i64 (a := (per m s : Int) + 1) (by omega)]
      apply hK; clear hK K
      have r7 := get_set (o' := AObj.row [.int .i64 m, .int .i64 s, .int .i64 ((per m s : Int) + 1)] 0 0 false) r5
      have b7 := Bx.row r7
      have b8 : Bx (H5.set p2 (AObj.row [.int .i64 m, .int .i64 s, .int .i64 ((per m s : Int) + 1)] 0 0 false)) p m s (per m s : Nat) := Bx.row (st := 0) (ro := false) (by rw [set_ne hp12, hE5.row r4])
      generalize H5.set p2 (AObj.row [.int .i64 m, .int .i64 s, .int .i64 ((per m s : Int) + 1)] 0 0 false) = H7 at *
      refine L_reg [2] (fun K hK => ?_)
      simp [pickV, okFn_low, b8.l0, b8.l1, b8.la]
      refine Check_ac m s (per m s : Nat) _ _ ?_
      simp [pickV, okFn_low, b7.la, hck1]
      refine Check_ac m s ((per m s : Int) + 1) _ _ ?_
      simp [pickV, okFn_low, hck2]
      refine works_ac _ _ ?_
      simp [pickV]
      apply hK; clear hK K
      exact L_ret ⟨.inr rfl, _, rfl, rfl⟩
theorem wrapChain_int (n : List Int) (e : n.length = 3) (b : ∀ x ∈ n, IntKind.u8.min ≤ x ∧ x ≤ IntKind.u8.max) (H : AH) : AC Try.prog 14 [.agg (n.map (.int .u8))] H fun u _ => u = .bool true := by
  obtain ⟨x, y, z, rfl, hx, hy, hz⟩ := roll_int e b
  exact wrapChain_ac x y z hx hy hz H
end Go.Proofs.Ytjfmiohgkcjdnaa
