/- Locks and smallest groups change places: the walk. -/
import Derived.Test.YtcidcihpkdoejaaSortN
import Derived.Test.YtcidcihpkdoejaaKinds2
import Derived.Test.YtcidcihpkdoejaaRegF
import Derived.Test.YtcidcihpkdoejaaClo
import Derived.Test.YtcidcihpkdoejaaWMore
import Derived.Test.YtcidcihpkdoejaaWCounted
namespace Go.Proofs.Ytcidcihpkdoejaa.Bo
open Go Go.Proofs.Ytcidcihpkdoejaa Go.Proofs.Ytcidcihpkdoejaa.AX
set_option maxRecDepth 100000
theorem ownF_ext {N : Nat} {H H' : AH} {v : AV} {l : List AV} (h : OwnF N H v l) (hE : Ext H H') : OwnF N H' v l := by
  rcases h with h | ⟨r, ver, stale, h1, h2, h3⟩
  · exact .inl h
  · exact .inr ⟨r, ver, stale, h1, h2, by rw [hE.2 _ (List.getElem?_eq_some_iff.1 h3).1]; exact h3⟩
set_option maxHeartbeats 4000000 in
theorem dual_ac {b : List Nat} (hb : Sb b) (H : AH) : AC Try.prog 10 [.agg (sV b)] H fun v _ => v = .bool true := by
  refine L_body 186 Try.func10 rfl rfl ?_
  obtain ⟨I, hI, hz⟩ := zeroT_some zt24
  obtain ⟨J, hJ, hzJ⟩ := zeroT_some zt40
  refine L_reg [1] (fun K hK => ?_)
  simp [AV.isU, acells]
  apply hK; clear hK K
  have r1 : (H ++ [AObj.row (sV b) 0 0 false])[H.length]? = some (.row (sV b) 0 0 false) := by simp
  generalize H ++ [AObj.row (sV b) 0 0 false] = H1 at r1 ⊢
  have a1 := ldn_sV hb.len r1
  refine L_reg [3, 4] (fun K hK => ?_)
  simp [okFn_low, a1]
  refine made_ac (most := 6) (by decide) (by decide) hb _ _ (fun v H2 hO hE2 => ?_)
  simp
  apply hK; clear hK K
  have hr := okS (most := 6) (by decide) (by decide) hb.len
  have hll := sL_len 6 hb.len
  have hm9 := Nat.mod_lt b[1]! (show 0 < 9 by decide)
  clear a1 r1 hE2
  generalize sN 6 b = n at hr ⊢
  generalize sL 6 b = l at hr hll hO ⊢
  have lv := ownF_ls hO
  clear hO
  have hp := pw n
  have h64 := pw64 hr.n6
  have hK1 := locks_ok n l
  have hK2 : (locksS n l).length ≤ 2 ^ n := least_len _ _
  have hrK : OkR n (locksS n l) := ⟨hr.n1, hr.n6, by omega, hK1⟩
  have hD1 := least_len (2 ^ n) (within l)
  have hB1 := small_locks n l
  have hB2 := least_within (2 ^ n) (need n (within l))
  change leastS (2 ^ n) (within (locksS n l)) = locksS n l at hB2
  have hB3 := locks_back n l
  have hS := small_is hr.ok
  have hT := thin_is hr.ok
  have hTm := fun g => thin_mem (g := g) hr.ok
  have hTs := least_sorted (2 ^ n) (fun g => l.contains g)
  have hT1 := least_len (2 ^ n) (fun g => l.contains g)
  change leastS (2 ^ n) (hasG l) = _ at hT
  change ∀ g, g ∈ leastS (2 ^ n) (hasG l) ↔ _ at hTm
  change (leastS (2 ^ n) (hasG l)).Pairwise _ at hTs
  change (leastS (2 ^ n) (hasG l)).length ≤ _ at hT1
  obtain ⟨k, hk⟩ : ∃ k, locksS n l = k := ⟨_, rfl⟩
  obtain ⟨d, hd⟩ : ∃ d, leastS (2 ^ n) (within l) = d := ⟨_, rfl⟩
  rw [hd] at hD1 hB1 hB3 hT
  rw [hk] at hK1 hK2 hrK hB1 hB2 hB3 hS
  rw [hT] at hTm hTs hT1
  refine L_reg [3, 4, 5] (fun K hK => ?_)
  simp [okFn_low]
  refine rule_ac n v (il l) _ lv _ (fun G1 hEG1 => ?_)
  have hstgr := st2 (t := 24) ag24 (n := n) (s := v) (k := 0) (n' := 0) (s' := nilS) (p := G1.length) (H := G1 ++ [AObj.row [.int .i64 0, nilS] 0 0 false]) (by simp) (by intro h; cases h) (ls_one lv)
  simp [hI, hz, hstgr, cA]
  apply hK; clear hK K
  have gr : (G1 ++ [AObj.row [.int .i64 n, v] 0 0 false])[G1.length]? = some (.row [.int .i64 n, v] 0 0 false) := by simp
  have hPgr : Ext G1 (G1 ++ [AObj.row [.int .i64 n, v] 0 0 false]) := .push _ _
  have hQgr := hEG1.trans hPgr
  have lv := lv.ext hQgr
  clear hstgr
  generalize G1 ++ [AObj.row [.int .i64 n, v] 0 0 false] = G2 at *
  generalize G1.length = pgr at *
  have hvk := ls_known lv
  have cr := ldn_c gr hvk
  refine L_reg [3, 4, 5, 6, 7] (fun K hK => ?_)
  simp [okFn_low, cr]
  refine Make_ok hr v _ lv _ (fun m G3 hOm hEG3 => ?_)
  rw [hk] at hOm
  have hstgm := st2 (t := 40) ag40 (n := n) (s := m) (k := 0) (n' := 0) (s' := nilS) (p := G3.length) (H := G3 ++ [AObj.row [.int .i64 0, nilS] 0 0 false]) (by simp) (by intro h; cases h) (ls_one (ownF_ls hOm))
  simp [hJ, hzJ, hstgm, cA]
  apply hK; clear hK K
  have gm : (G3 ++ [AObj.row [.int .i64 n, m] 0 0 false])[G3.length]? = some (.row [.int .i64 n, m] 0 0 false) := by simp
  have hPgm : Ext G3 (G3 ++ [AObj.row [.int .i64 n, m] 0 0 false]) := .push _ _
  have hQgm := hEG3.trans hPgm
  have lv := lv.ext hQgm
  have gr : (G3 ++ [AObj.row [.int .i64 n, m] 0 0 false])[pgr]? = some (.row [.int .i64 n, v] 0 0 false) := by rw [hQgm.2 _ (List.getElem?_eq_some_iff.1 gr).1]; exact gr
  have lm := (ownF_ls hOm).ext hPgm
  clear hstgm
  generalize G3 ++ [AObj.row [.int .i64 n, m] 0 0 false] = G4 at *
  generalize G3.length = pgm at *
  have hmk := ls_known lm
  have cr := ldn_c gr hvk
  refine L_reg [3, 4, 6, 7, 8, 9] (fun K hK => ?_)
  simp [okFn_low, cr]
  refine Least_ok hr v _ lv _ (fun y G5 hOy hEG5 => ?_)
  rw [hd] at hOy
  simp
  apply hK; clear hK K
  have lv := lv.ext hEG5
  have lm := lm.ext hEG5
  have gr : G5[pgr]? = some (.row [.int .i64 n, v] 0 0 false) := by rw [hEG5.2 _ (List.getElem?_eq_some_iff.1 gr).1]; exact gr
  have gm : G5[pgm]? = some (.row [.int .i64 n, m] 0 0 false) := by rw [hEG5.2 _ (List.getElem?_eq_some_iff.1 gm).1]; exact gm
  have ly := (ownF_ls hOy)
  have c0 := ld_c0 gm
  have c1 := ld_c1 gm hmk
  have cm := ldn_c gm hmk
  have lnm := ls_len lm
  rw [il_len] at lnm
  have hk64 : ¬ 64 < (k.length : Int) := by omega
  refine L_reg [3, 4, 6, 8, 56] (fun K hK => ?_)
  simp [c0, c1, lnm, hk64, pickV]
  apply hK; clear hK K
  refine L_false rfl ?_
  refine L_reg [3, 4, 6, 7, 8, 10] (fun K hK => ?_)
  simp [okFn_low, cm]
  refine Smallest_ok hrK m _ lm _ (fun s G6 hOs hEG6 => ?_)
  rw [hB1] at hOs
  simp
  apply hK; clear hK K
  have lv := lv.ext hEG6
  have lm := lm.ext hEG6
  have ly := ly.ext hEG6
  have gr : G6[pgr]? = some (.row [.int .i64 n, v] 0 0 false) := by rw [hEG6.2 _ (List.getElem?_eq_some_iff.1 gr).1]; exact gr
  have gm : G6[pgm]? = some (.row [.int .i64 n, m] 0 0 false) := by rw [hEG6.2 _ (List.getElem?_eq_some_iff.1 gm).1]; exact gm
  have ls := (ownF_ls hOs)
  have c1 := ld_c1 gm hmk
  refine L_reg [3, 4, 6, 7, 8, 9, 10, 11] (fun K hK => ?_)
  simp [okFn_low, c1]
  refine rule_ac n m (il k) _ lm _ (fun G7 hEG7 => ?_)
  simp [okFn_low]
  refine Least_ok hrK m _ (lm.ext hEG7) _ (fun q G8 hOq hEG8 => ?_)
  have hEG8a := hEG7.trans hEG8
  rw [hB2] at hOq
  simp
  apply hK; clear hK K
  have lv := lv.ext hEG8a
  have lm := lm.ext hEG8a
  have ly := ly.ext hEG8a
  have ls := ls.ext hEG8a
  have gr : G8[pgr]? = some (.row [.int .i64 n, v] 0 0 false) := by rw [hEG8a.2 _ (List.getElem?_eq_some_iff.1 gr).1]; exact gr
  have gm : G8[pgm]? = some (.row [.int .i64 n, m] 0 0 false) := by rw [hEG8a.2 _ (List.getElem?_eq_some_iff.1 gm).1]; exact gm
  have lq := (ownF_ls hOq)
  have c1 := ld_c1 gm hmk
  refine L_reg [3, 4, 6, 7, 8, 9, 10, 11, 12, 13] (fun K hK => ?_)
  simp [okFn_low, c1]
  refine rule_ac n m (il k) _ lm _ (fun G9 hEG9 => ?_)
  simp [okFn_low]
  refine Make_ok hrK m _ (lm.ext hEG9) _ (fun z G10 hOz hEG10 => ?_)
  have hEG10a := hEG9.trans hEG10
  rw [hB3] at hOz
  have hstgz := st2 (t := 40) ag40 (n := n) (s := z) (k := 0) (n' := 0) (s' := nilS) (p := G10.length) (H := G10 ++ [AObj.row [.int .i64 0, nilS] 0 0 false]) (by simp) (by intro h; cases h) (ls_one (ownF_ls hOz))
  simp [hJ, hzJ, hstgz, cA]
  apply hK; clear hK K
  have gz : (G10 ++ [AObj.row [.int .i64 n, z] 0 0 false])[G10.length]? = some (.row [.int .i64 n, z] 0 0 false) := by simp
  have hPgz : Ext G10 (G10 ++ [AObj.row [.int .i64 n, z] 0 0 false]) := .push _ _
  have hQgz := hEG10a.trans hPgz
  have lv := lv.ext hQgz
  have lm := lm.ext hQgz
  have ly := ly.ext hQgz
  have ls := ls.ext hQgz
  have lq := lq.ext hQgz
  have gr : (G10 ++ [AObj.row [.int .i64 n, z] 0 0 false])[pgr]? = some (.row [.int .i64 n, v] 0 0 false) := by rw [hQgz.2 _ (List.getElem?_eq_some_iff.1 gr).1]; exact gr
  have gm : (G10 ++ [AObj.row [.int .i64 n, z] 0 0 false])[pgm]? = some (.row [.int .i64 n, m] 0 0 false) := by rw [hQgz.2 _ (List.getElem?_eq_some_iff.1 gm).1]; exact gm
  have lz := (ownF_ls hOz).ext hPgz
  clear hstgz
  generalize G10 ++ [AObj.row [.int .i64 n, z] 0 0 false] = G11 at *
  generalize G10.length = pgz at *
  have hzk := ls_known lz
  have c1 := ld_c1 gm hmk
  have z0 := ld_c0 gz
  have z1 := ld_c1 gz hzk
  refine L_reg [3, 4, 113] (fun K hK => ?_)
  simp [okFn_low, pickV]
  refine sameT_q s y d (by omega) _ ls ly _ ?_
  simp [okFn_low, pickV, c1]
  refine sameT_q q m k (by omega) _ lq lm _ ?_
  simp [okFn_low, pickV, z0, z1]
  refine sameT_q z y d (by omega) _ lz ly _ ?_
  simp [pickV]
  apply hK; clear hK K
  refine L_false rfl ?_
  clear lm ly ls lq lz gm gz gr
  refine L_reg [3, 4, 14] (fun K hK => ?_)
  simp [okFn_low]
  refine plan_ac n v (il l) _ lv _ (fun G12 hEG12 => ?_)
  have hstgp := st2 (t := 40) ag40 (n := n) (s := v) (k := 0) (n' := 0) (s' := nilS) (p := G12.length) (H := G12 ++ [AObj.row [.int .i64 0, nilS] 0 0 false]) (by simp) (by intro h; cases h) (ls_one lv)
  simp [hJ, hzJ, hstgp, cA]
  apply hK; clear hK K
  have gp : (G12 ++ [AObj.row [.int .i64 n, v] 0 0 false])[G12.length]? = some (.row [.int .i64 n, v] 0 0 false) := by simp
  have hPgp : Ext G12 (G12 ++ [AObj.row [.int .i64 n, v] 0 0 false]) := .push _ _
  have hQgp := hEG12.trans hPgp
  have lv := lv.ext hQgp
  clear hstgp
  generalize G12 ++ [AObj.row [.int .i64 n, v] 0 0 false] = G13 at *
  generalize G12.length = pgp at *
  have cp := ldn_c gp hvk
  refine L_reg [3, 4, 7, 14, 15] (fun K hK => ?_)
  simp [okFn_low, cp]
  refine Thin_ok hr v _ lv _ (fun t G14 hOt hEG14 => ?_)
  rw [hT] at hOt
  have hstgt := st2 (t := 40) ag40 (n := n) (s := t) (k := 0) (n' := 0) (s' := nilS) (p := G14.length) (H := G14 ++ [AObj.row [.int .i64 0, nilS] 0 0 false]) (by simp) (by intro h; cases h) (ls_one (ownF_ls hOt))
  simp [hJ, hzJ, hstgt, cA]
  apply hK; clear hK K
  have gt : (G14 ++ [AObj.row [.int .i64 n, t] 0 0 false])[G14.length]? = some (.row [.int .i64 n, t] 0 0 false) := by simp
  have hPgt : Ext G14 (G14 ++ [AObj.row [.int .i64 n, t] 0 0 false]) := .push _ _
  have hQgt := hEG14.trans hPgt
  have lv := lv.ext hQgt
  have gp : (G14 ++ [AObj.row [.int .i64 n, t] 0 0 false])[pgp]? = some (.row [.int .i64 n, v] 0 0 false) := by rw [hQgt.2 _ (List.getElem?_eq_some_iff.1 gp).1]; exact gp
  have lt := (ownF_ls hOt).ext hPgt
  clear hstgt
  generalize G14 ++ [AObj.row [.int .i64 n, t] 0 0 false] = G15 at *
  generalize G14.length = pgt at *
  have htk := ls_known lt
  have cp := ldn_c gp hvk
  refine L_reg [3, 4, 7, 9, 15, 16] (fun K hK => ?_)
  simp [okFn_low, cp]
  refine Smallest_ok hr v _ lv _ (fun w G16 hOw hEG16 => ?_)
  rw [hS] at hOw
  simp
  apply hK; clear hK K
  have lv := lv.ext hEG16
  have lt := lt.ext hEG16
  have gp : G16[pgp]? = some (.row [.int .i64 n, v] 0 0 false) := by rw [hEG16.2 _ (List.getElem?_eq_some_iff.1 gp).1]; exact gp
  have gt : G16[pgt]? = some (.row [.int .i64 n, t] 0 0 false) := by rw [hEG16.2 _ (List.getElem?_eq_some_iff.1 gt).1]; exact gt
  have lw := (ownF_ls hOw)
  have t0 := ld_c0 gt
  have lnw := ls_len lw
  rw [il_len] at lnw
  refine L_reg [3, 4, 15, 16, 143] (fun K hK => ?_)
  simp [t0, lnw, hk64, pickV]
  apply hK; clear hK K
  refine L_false rfl ?_
  refine L_reg [4, 13, 15, 17] (fun K hK => ?_)
  simp [okFn_low]
  refine rule_ac n w (il k) _ lw _ (fun G17 hEG17 => ?_)
  simp [okFn_low]
  refine Make_ok hrK w _ (lw.ext hEG17) _ (fun x G18 hOx hEG18 => ?_)
  have hEG18a := hEG17.trans hEG18
  rw [hB3] at hOx
  have hstgx := st2 (t := 40) ag40 (n := n) (s := x) (k := 0) (n' := 0) (s' := nilS) (p := G18.length) (H := G18 ++ [AObj.row [.int .i64 0, nilS] 0 0 false]) (by simp) (by intro h; cases h) (ls_one (ownF_ls hOx))
  simp [hJ, hzJ, hstgx, cA]
  apply hK; clear hK K
  have gx : (G18 ++ [AObj.row [.int .i64 n, x] 0 0 false])[G18.length]? = some (.row [.int .i64 n, x] 0 0 false) := by simp
  have hPgx : Ext G18 (G18 ++ [AObj.row [.int .i64 n, x] 0 0 false]) := .push _ _
  have hQgx := hEG18a.trans hPgx
  have lv := lv.ext hQgx
  have lt := lt.ext hQgx
  have lw := lw.ext hQgx
  have gp : (G18 ++ [AObj.row [.int .i64 n, x] 0 0 false])[pgp]? = some (.row [.int .i64 n, v] 0 0 false) := by rw [hQgx.2 _ (List.getElem?_eq_some_iff.1 gp).1]; exact gp
  have gt : (G18 ++ [AObj.row [.int .i64 n, x] 0 0 false])[pgt]? = some (.row [.int .i64 n, t] 0 0 false) := by rw [hQgx.2 _ (List.getElem?_eq_some_iff.1 gt).1]; exact gt
  have lx := (ownF_ls hOx).ext hPgx
  clear hstgx
  generalize G18 ++ [AObj.row [.int .i64 n, x] 0 0 false] = G19 at *
  generalize G18.length = pgx at *
  have hxk := ls_known lx
  have x1 := ld_c1 gx hxk
  have t1 := ld_c1 gt htk
  refine L_reg [4, 15, 160] (fun K hK => ?_)
  simp [okFn_low, x1, t1]
  refine sameT_q x t d (by omega) _ lx lt _ ?_
  simp [pickV]
  apply hK; clear hK K
  refine L_false rfl ?_
  clear lx gx gp
  have t1 := ld_c1 gt htk
  have lnv := ls_len lv
  rw [il_len] at lnv
  refine L_reg [4, 15, 18] (fun K hK => ?_)
  simp
  apply hK; clear hK K
  refine L_reg [4, 15, 18, 161, 162, 163] (fun K hK => ?_)
  simp [lnv]
  apply hK; clear hK K
  obtain ⟨T, hT'⟩ : ∃ T, zeroT Try.prog 3 = some T := ⟨_, zt3⟩
  obtain ⟨I3, hI3, hz3⟩ := zeroT_some zt3
  let P : Nat → Bool := fun x => !(l.any fun y => oth x y)
  have hpt := (List.getElem?_eq_some_iff.1 gt).1
  have hl9 : l.length ≤ 9 := by omega
  refine L_block (L_loopV [18, 163] (fun q vs H' => ∃ (i : Nat) (v' : AV), q = l.length - i ∧ i ≤ l.length ∧ vs = [v', .int .i64 i] ∧ Ext G19 H' ∧ OwnN G19.length H' v' (il ((l.take i).filter P))) _ [nilS, .int .i64 (0 : Nat)] rfl ⟨0, _, rfl, by omega, rfl, .refl _, fun _ => rfl, OwnF.nil _ _⟩ ?_)
  rintro q _ H3 ⟨i, v', rfl, hi, rfl, hE3, ho⟩
  refine L_reg [4, 15, 18, 161, 162, 163, 164] (fun K hK => ?_)
  simp
  apply hK; clear hK K
  refine L_dec (i < l.length) (by simp) (fun hlt => ?_) (fun hge => L_exit ?_)
  · refine L_block ?_
    have lv3 := lv.ext hE3
    obtain ⟨rz, pz, vz, hix, hldz⟩ := il_ix lv3 hlt
    have hx64 := hr.ok64 l[i] (List.getElem_mem hlt)
    have htk : (l.take (i + 1)).filter P = (l.take i).filter P ++ (if P l[i] then [l[i]] else []) := by
      rw [List.take_succ_eq_append_getElem hlt, List.filter_append]
      congr 1
      cases h : P l[i] <;> simp [h]
    have hfl : ((l.take i).filter P).length ≤ i := Nat.le_trans (List.length_filter_le _ _) (by rw [List.length_take]; omega)
    generalize l[i] = x at hldz hx64 htk
    have hst := store_row (P := Try.prog) (u := 3) (p := 0) (r := H3.length) (H := H3 ++ [AObj.row [.int .i64 0] 0 0 false]) (c := [.int .i64 0]) (v := 0) (s := 0) sc3 (x := .int .i64 (x : Nat)) (y := .int .i64 0) rfl (by simp) rfl
    have hld2 : ld H3 rz pz vz = some (.int .i64 (x : Nat)) := hldz
    refine L_reg [4, 15, 18, 20, 161, 162, 163] (fun K hK => ?_)
    simp [hix, hldz, hI3, hz3, hst]
    apply hK; clear hK K
    have hcx : (H3 ++ [AObj.row [.int .i64 (x : Int)] 0 0 false])[H3.length]? = some (.row [.int .i64 (x : Nat)] 0 0 false) := by simp
    have hE4 : Ext G19 (H3 ++ [AObj.row [.int .i64 (x : Int)] 0 0 false]) := hE3.trans (.push _ _)
    have ho4 : OwnN G19.length (H3 ++ [AObj.row [.int .i64 (x : Int)] 0 0 false]) v' (il ((l.take i).filter P)) := ⟨ho.1, ownF_ext ho.2 (.push _ _)⟩
    have lv4 := lv3.ext (.push H3 [AObj.row [.int .i64 (x : Int)] 0 0 false])
    generalize H3 ++ [AObj.row [.int .i64 (x : Int)] 0 0 false] = H4 at hcx hE4 ho4 lv4 ⊢
    generalize H3.length = cx0 at hcx ⊢
    clear hst hld2 hldz hix ho hE3 lv3
    refine L_reg [4, 15, 18, 20, 161, 162, 163, 170] (fun K hK => ?_)
    simp [okFn_low]
    refine containsFunc_q 53 [] [.ptr cx0 0 0] (oth x) (by kernel_rfl) l v (by omega) _ lv4 (fun o hoo Q hQ => other_q hx64 (hr.ok64 o hoo) _ hcx Q hQ) _ ?_
    suffices hk : K [(4, v), (15, .ptr pgt 0 0), (18, v'), (20, .ptr cx0 0 0), (161, v), (162, .int .i64 (l.length : Nat)), (163, .int .i64 i), (170, .bool (P x))] H4 by
      have e : P x = !(l.any (oth x)) := rfl
      rw [e] at hk
      generalize l.any (oth x) = bb at hk ⊢
      cases bb <;> simpa using hk
    apply hK; clear hK K
    have hlx : ld H4 cx0 0 0 = some (.int .i64 (x : Nat)) := by rw [ld_row hcx]; rfl
    cases hPx : P x with
    | true =>
      obtain ⟨v2, H5, happ, ho5, hE5⟩ := ownF_append (P := Try.prog) (m := 1) (x := .int .i64 (x : Nat)) hE4 el22 el22 ho4.2 rfl (by simp [il_len]; omega)
      refine L_true (by simp) ?_
      refine L_reg [4, 15, 18, 161, 162, 163] (fun K hK => ?_)
      simp [hlx, happ]
      apply hK; clear hK K
      refine L_reg [4, 15, 18, 161, 162, 163] (fun K hK => ?_)
      simp [wrap_i64 (a := (i : Int) + 1) (by omega)]
      apply hK; clear hK K
      refine ⟨l.length - (i + 1), [v2, .int .i64 (i + 1 : Nat)], by omega, by simp, i + 1, v2, rfl, by omega, rfl, hE5, ?_⟩
      rw [htk, hPx, if_pos rfl]
      exact ⟨fun h0 => by simp [il] at h0, by rw [nats_snoc]; exact ho5⟩
    | false =>
      refine L_false (by simp) ?_
      refine L_reg [4, 15, 18, 161, 162, 163] (fun K hK => ?_)
      simp [wrap_i64 (a := (i : Int) + 1) (by omega)]
      apply hK; clear hK K
      refine ⟨l.length - (i + 1), [v', .int .i64 (i + 1 : Nat)], by omega, by simp, i + 1, v', rfl, by omega, rfl, hE4, ?_⟩
      rw [htk, hPx, if_neg (by simp), List.append_nil]
      exact ho4
  · have e : i = l.length := by omega
    subst e
    rw [List.take_length] at ho
    have hfl : (l.filter P).length ≤ l.length := List.length_filter_le _ _
    have hPm : ∀ g, g ∈ l.filter P ↔ g ∈ d := fun g => by
      rw [hTm g, List.mem_filter]
      constructor
      · rintro ⟨m1, m2⟩
        refine ⟨m1, fun y hy hs => ?_⟩
        by_cases hyg : y = g
        · exact hyg
        · have : l.any (oth g) = true := List.any_eq_true.2 ⟨y, hy, by simp [oth, hyg, hs]⟩
          have m3 : (!(l.any (oth g))) = true := m2
          rw [this] at m3; cases m3
      · rintro ⟨m1, m2⟩
        refine ⟨m1, ?_⟩
        show (!(l.any (oth g))) = true
        cases ha : l.any (oth g) with
        | false => rfl
        | true =>
          obtain ⟨y, hy, hz⟩ := List.any_eq_true.1 ha
          simp only [oth, Bool.and_eq_true, Bool.not_eq_true', beq_eq_false_iff_ne] at hz
          exact absurd (m2 y hy hz.2) hz.1
    refine L_reg [15, 18] (fun K hK => ?_)
    simp [okFn_low]
    refine sort_own hE3 ho.2 (by rw [il_len]; omega) _ fun H5 mm hp hs ho5 hE5 => ?_
    simp
    apply hK; clear hK K
    have hml := hp.length_eq
    rw [il_len] at hml
    have gt5 : H5[pgt]? = some (.row [.int .i64 n, t] 0 0 false) := by rw [hE5.2 _ hpt]; exact gt
    have t5 := ld_c1 gt5 htk
    have lt5 := lt.ext hE5
    have hmem : ∀ x, x ∈ mm ↔ x ∈ il d := fun x => by
      rw [hp.mem_iff]
      unfold il
      simp only [List.mem_map]
      exact ⟨fun ⟨a, h1, h2⟩ => ⟨a, (hPm a).1 h1, h2⟩, fun ⟨a, h1, h2⟩ => ⟨a, (hPm a).2 h1, h2⟩⟩
    have hdl : (il d).Pairwise (· < ·) := by
      unfold il
      rw [List.pairwise_map]
      exact hTs.imp (by intro a b h; omega)
    rcases ho5 with ⟨m0, rfl⟩ | ⟨r, ver, st, hr1, rfl, hr3⟩
    · obtain rfl : mm = [] := by simpa using m0
      have hd0 : il d = [] := List.eq_nil_iff_forall_not_mem.2 fun x hx => by simpa using (hmem x).2 hx
      have hd1 : d = [] := by simpa [il] using hd0
      rw [hd1] at lt5
      refine L_regF mixed [] [false, true, false, false] [2] (by kernel_rfl) (fun K hK => ?_)
      simp [okFn_low, t5]
      refine exC_mk (fun Q hQ => AC_kernZ cx_ok 300 compact_nil (.cons (by exact Bel.nilslice ..) .nil) (by exact Bel.nilslice ..) hQ) ?_
      simp [KeepS.refl, okFn_low]
      refine exC_mk (fun Q hQ => sameT_q t nilS [] (by simp) _ lt5 (Ls.nil _) Q hQ) ?_
      simp [okFn_low]
      refine exC_mk (fun Q hQ => works_ac _ Q hQ) ?_
      simp [pickV]
      apply hK; clear hK K
      exact L_ret ⟨.inr rfl, _, rfl, rfl⟩
    · rw [List.length_map]
      have hmm0 : mm ≠ [] := fun h0 => by
        have : il (l.filter P) = [] := by
          have := hp.length_eq
          rw [h0] at this
          exact List.length_eq_zero_iff.1 this.symm
        have := ho.1 this; cases this
      have hl1 : 1 ≤ mm.length := List.length_pos_iff.2 hmm0
      have hsort : ∀ i j, i < j → j < mm.length → g mm i ≤ g mm j := fun i j hij hj => by
        rw [g_lt (by omega), g_lt hj]
        exact List.pairwise_iff_getElem.1 hs i j (by omega) hj hij
      have e : dqN mm mm.length = il d := sorted_ext (dqN_lt hsort mm.length (Nat.le_refl _)) hdl fun x => by
        rw [dqN_mem, ← hmem]
        constructor
        · rintro ⟨i, hi, rfl⟩
          rw [g_lt hi]; exact List.getElem_mem hi
        · intro hx
          obtain ⟨i, hi, rfl⟩ := List.getElem_of_mem hx
          exact ⟨i, hi, g_lt hi⟩
      have hrp : pgt ≠ r := by omega
      have hKS : KeepS [r] H5 (cmH H5 r ver st mm mm.length) := by
        unfold cmH
        split
        · exact .refl _ _
        · exact (KeepS.refl _ _).set (by simp) _
      have hrl := (List.getElem?_eq_some_iff.1 hr3).1
      have hcl : Ls (cmH H5 r ver st mm mm.length) (.slice (some r) 0 (dqN mm mm.length).length ver 1 false) (il d) := by
        rw [← e]
        unfold cmH
        split
        · rename_i h0
          rw [h0]; exact Ls.row hr3 false
        · refine ⟨some r, 0, ver, 1, false, rfl, fun j hj => ⟨r, rfl, rfl, ?_⟩⟩
          rw [ld_row (get_set hr3), Nat.zero_add, List.getElem?_map, List.getElem?_append_left hj, List.getElem?_eq_getElem hj]
          rfl
      have hEc : Ext G19 (cmH H5 r ver st mm mm.length) := by
        unfold cmH
        split
        · exact hE5
        · exact hE5.set _ hr1
      have lt6 := lt.ext hEc
      refine L_regF mixed [r] [false, true, false, false] [2] (by kernel_rfl) (fun K hK => ?_)
      simp [okFn_low, t5, hrp]
      refine exC_mk (fun Q hQ => Compact_x r ver st mm mm.length rfl hl1 (by omega) H5 Q hr3 hQ) ?_
      simp [hKS, okFn_low]
      refine exC_mk (fun Q hQ => sameT_q t _ d (by omega) _ lt6 hcl Q hQ) ?_
      simp [okFn_low]
      refine exC_mk (fun Q hQ => works_ac _ Q hQ) ?_
      simp [pickV]
      apply hK; clear hK K
      exact L_ret ⟨.inr rfl, _, rfl, rfl⟩
end Go.Proofs.Ytcidcihpkdoejaa.Bo
