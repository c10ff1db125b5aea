/- The reference's keys, plans and thin plans; any so many may open. -/
import Derived.Test.YtcidcihpkdoejaaRef3
import Derived.Test.YtcidcihpkdoejaaThree
namespace Go.Proofs.Ytcidcihpkdoejaa.Bo
open Go Go.Proofs.Ytcidcihpkdoejaa Go.Proofs.Ytcidcihpkdoejaa.AX
set_option maxRecDepth 100000
theorem ownF_appendN {N : Nat} {H : AH} (hN : N ≤ H.length) {v : AV} {l : List AV} (ho : OwnF N H v l) (x : Int) (m : Nat) (hlen : l.length < 16777216) :
    ∃ v' H', aAppend Try.prog (H ++ [.row [.int .i64 x] 0 m false]) 22 22 v (.slice (some H.length) 0 1 0 1 false) = some (v', H') ∧ OwnF N H' v' (l ++ [.int .i64 x]) ∧ N ≤ H'.length ∧ ∀ j, j < N → H'[j]? = H[j]? := by
  have hl : (H.take N).length = N := by rw [List.length_take]; omega
  have hE : Ext (H.take N) H := ⟨by rw [hl]; exact hN, fun j hj => by rw [List.getElem?_take_of_lt (by omega)]⟩
  obtain ⟨v', H', h1, h2, h3⟩ := ownF_append (P := Try.prog) (m := m) (x := .int .i64 x) hE el22 el22 (by rw [hl]; exact ho) rfl hlen
  rw [hl] at h2
  have := h3.1
  rw [hl] at this
  exact ⟨v', H', h1, h2, this, fun j hj => by rw [h3.2 j (by omega), List.getElem?_take_of_lt hj]⟩
theorem ownF_ge {N : Nat} {H : AH} {v : AV} {l : List AV} (h : OwnF N H v l) {r : Nat} (hr : rowOf v = some r) : N ≤ r := by
  rcases h with ⟨-, rfl⟩ | ⟨r', ver, stale, h1, rfl, h3⟩
  · cases hr
  · cases hr; exact h1
/-- A struct whose list grows. -/
structure Acc (HB : AH) (q : Nat) (n : Int) (H : AH) (v : AV) (k : Nat) (l : List Int) : Prop where
  keep : KeepS [q] HB H
  row : H[q]? = some (.row [.int .i64 n, v] 0 k false)
  own : OwnF HB.length H v (l.map (.int .i64))
theorem Acc.step {HB : AH} {q : Nat} {n : Int} {H : AH} {v : AV} {k : Nat} {l : List Int} (h : Acc HB q n H v k l) (hq : q < HB.length) (x : Int) (hlen : l.length < 16777216) :
    ∃ v' H' H2, aAppend Try.prog (H ++ [.row [.int .i64 x] 0 1 false]) 22 22 v (.slice (some H.length) 0 1 0 1 false) = some (v', H') ∧ storeV Try.prog 22 H' (.ptr q 1 0) v' = some (none, H2) ∧ Acc HB q n H2 v' (min k 1) (l ++ [x]) := by
  obtain ⟨v', H', h1, h2, h3, h4⟩ := ownF_appendN h.keep.1 h.own x 1 (by simpa using hlen)
  have hr : H'[q]? = some (.row [.int .i64 n, v] 0 k false) := by rw [h4 q hq]; exact h.row
  obtain ⟨-, m1, -⟩ := sl_known (ownF_sl h2)
  obtain ⟨m2, -, -⟩ := sl_known (ownF_sl h.own)
  refine ⟨v', H', _, h1, st_f1 hr m2 m1, ⟨by rw [List.length_set]; exact h3, fun j hj hl => ?_⟩, get_set hr, ownF_set (by simpa using h2) hq _⟩
  rw [List.getElem?_set_ne (fun e => hj (by rw [← e]; simp)), h4 j hl, h.keep.2 j hj hl]
theorem Acc.ld {HB : AH} {q : Nat} {n : Int} {H : AH} {v : AV} {k : Nat} {l : List Int} (h : Acc HB q n H v k l) : ld H q 1 0 = some v := ld_k1 h.row (sl_known (ownF_sl h.own)).1
theorem Acc.old {HB : AH} {q : Nat} {n : Int} {H : AH} {v : AV} {k : Nat} {l : List Int} (h : Acc HB q n H v k l) {j : Nat} {o : AObj} (hj : HB[j]? = some o) (hne : j ≠ q) : H[j]? = some o := by
  rw [h.keep.2 j (by simpa using hne) (List.getElem?_eq_some_iff.1 hj).1]; exact hj
theorem Acc.ext {HB H0 : AH} {q : Nat} {n : Int} {H : AH} {v : AV} {k : Nat} {l : List Int} (h : Acc HB q n H v k l) (hE : Ext H0 HB) (hq : H0.length ≤ q) : Ext H0 H :=
  ⟨Nat.le_trans hE.1 h.keep.1, fun j hj => by rw [h.keep.2 j (by simp; omega) (by have := hE.1; omega), hE.2 j hj]⟩
theorem Acc.ls {HB H0 : AH} {q : Nat} {n : Int} {H : AH} {v : AV} {k : Nat} {l : List Int} (h : Acc HB q n H v k l) (hE : Ext H0 HB) (hq : H0.length ≤ q) {u : AV} {m : List Int} (hu : Ls H0 u m) : Ls H u m := hu.ext (h.ext hE hq)
noncomputable def sizeB (g : Nat) : Bool := match callN (runZ cx 300) 81 [.int .i64 (.ofNat g)] [] with
  | some (.int .i64 m, []) => m == (pop g : Int)
  | _ => false
theorem size_all : (List.range 64).all sizeB = true := by kernel_rfl
theorem size_q (g : Nat) (hg : g < 64) (H : AH) (Q : AV → AH → Prop) (h : Q (.int .i64 (pop g : Nat)) H) : AC Try.prog 81 [.int .i64 g] H Q := by
  have h1 := size_all
  rw [List.all_eq_true] at h1
  have h2 := h1 g (List.mem_range.2 hg)
  unfold sizeB at h2
  split at h2
  case h_2 => cases h2
  rename_i m hm
  rw [beq_iff_eq] at h2
  subst h2
  exact AC_kernZ cx_ok 300 hm (.cons (.int _ _) .nil) (.int _ _) h

theorem KeysR_bad (n : Int) (l : List Int) (s : AV) (hlen : l.length ≤ 1000000) (hc : chk n l ≠ 0) (H : AH) (hs : Ls H s l) (Q : AV → AH → Prop) (h : Q (.tuple [nilS, .int .i64 (chk n l)]) H) : AC Try.prog 32 [cA n s] H Q := by
  refine AC.quiet (belB_ne _ _ _) (fun Q h => ?_) Q h
  refine L_body 43 Try.func32 rfl rfl ?_
  have hk := ls_known hs
  refine L_reg [1] (fun K hK => ?_)
  simp [cA, AV.isU, acells]
  apply hK; clear hK K
  have h1 : (H ++ [AObj.row [.int .i64 n, s] 0 0 false])[H.length]? = some (.row [.int .i64 n, s] 0 0 false) := by simp
  have hE : Ext H (H ++ [AObj.row [.int .i64 n, s] 0 0 false]) := .push _ _
  generalize H ++ [AObj.row [.int .i64 n, s] 0 0 false] = HB at h1 hE ⊢
  have hp1 := (List.getElem?_eq_some_iff.1 h1).1
  have c0 := ld_c0 h1
  have c1 := ld_c1 h1 hk
  have a2 := ldn_c h1 hk
  have hsB := hs.ext hE
  refine L_reg [1, 4] (fun K hK => ?_)
  simp [okFn_low, a2]
  refine CheckP_q n l s hlen _ hsB _ ?_
  simp
  apply hK; clear hK K
  refine L_reg [1, 4, 12] (fun K hK => ?_)
  simp
  apply hK; clear hK K
  refine L_true (by simp [hc]) ?_
  refine L_reg [2, 3] (fun K hK => ?_)
  simp
  apply hK; clear hK K
  exact L_ret ⟨.inr rfl, _, rfl, h _ hE⟩
theorem KeysR_ok {n : Nat} {l : List Nat} (hr : OkR n l) (s : AV) (H : AH) (hs : Ls H s (il l)) (Q : AV → AH → Prop) (h : ∀ v H', OwnF H.length H' v ((kL n (keyS l)).map (.int .i64)) → Ext H H' → Q (.tuple [v, .int .i64 0]) H') : AC Try.prog 32 [cA n s] H Q := by
  have hc := ok_chk hr
  have hlen : (il l).length ≤ 1000000 := by rw [il_len]; have := hr.len; omega
  have h64 := pw64 hr.n6
  have hp := pw n
  refine L_body 43 Try.func32 rfl rfl ?_
  have hk := ls_known hs
  refine L_reg [1] (fun K hK => ?_)
  simp [cA, AV.isU, acells]
  apply hK; clear hK K
  have h1 : (H ++ [AObj.row [.int .i64 n, s] 0 0 false])[H.length]? = some (.row [.int .i64 n, s] 0 0 false) := by simp
  have hE : Ext H (H ++ [AObj.row [.int .i64 n, s] 0 0 false]) := .push _ _
  generalize H ++ [AObj.row [.int .i64 n, s] 0 0 false] = HB at h1 hE ⊢
  have hp1 := (List.getElem?_eq_some_iff.1 h1).1
  have c0 := ld_c0 h1
  have c1 := ld_c1 h1 hk
  have a2 := ldn_c h1 hk
  have hsB := hs.ext hE
  have hn6 := hr.n6
  have hll := hr.len
  refine L_reg [1, 4] (fun K hK => ?_)
  simp [okFn_low, a2]
  refine CheckP_q n (il l) s hlen _ hsB _ ?_
  simp [hc]
  apply hK; clear hK K
  refine L_reg [1, 4, 12] (fun K hK => ?_)
  simp
  apply hK; clear hK K
  refine L_false rfl ?_
  refine L_reg [1, 5] (fun K hK => ?_)
  simp
  apply hK; clear hK K
  refine L_reg [1, 5, 6] (fun K hK => ?_)
  simp
  apply hK; clear hK K
  refine L_block (L_loopV [5, 6] (fun q vs H' => ∃ (i : Nat) (v : AV), q = n - i ∧ i ≤ n ∧ vs = [v, .int .i64 i] ∧ Ext HB H' ∧ OwnF HB.length H' v ((kL i (keyS l)).map (.int .i64))) _ [nilS, .int .i64 (0 : Nat)] rfl ⟨0, _, rfl, by omega, rfl, .refl _, OwnF.nil _ _⟩ ?_)
  clear c0 c1 a2
  rintro q _ H1 ⟨i, v, rfl, hi, rfl, hE1, ho⟩
  have h1' : H1[H.length]? = some (.row [.int .i64 n, s] 0 0 false) := by rw [hE1.2 _ hp1]; exact h1
  have c0 := ld_c0 h1'
  have c1 := ld_c1 h1' hk
  have hs1 := hsB.ext hE1
  have hvl := ls_len hs1
  rw [il_len] at hvl
  refine L_reg [1, 5, 6, 17] (fun K hK => ?_)
  simp [c0]
  apply hK; clear hK K
  refine L_dec (i < n) (by simp) (fun hlt => ?_) (fun hge => L_exit ?_)
  · refine L_block ?_
    refine L_reg [1, 5, 6, 7] (fun K hK => ?_)
    simp
    apply hK; clear hK K
    refine L_reg [1, 5, 6, 7, 8] (fun K hK => ?_)
    simp
    apply hK; clear hK K
    refine L_block (L_loopV [7, 8] (fun q vs H' => ∃ j : Nat, q = l.length - j ∧ j ≤ l.length ∧ vs = [.int .i64 (keyS (l.take j) i : Nat), .int .i64 j] ∧ H1 = H') _ [.int .i64 (0 : Nat), .int .i64 (0 : Nat)] rfl ⟨0, rfl, by omega, rfl, rfl⟩ ?_)
    rintro q _ _ ⟨j, rfl, hj, rfl, rfl⟩
    refine L_reg [1, 5, 6, 7, 8, 24] (fun K hK => ?_)
    simp [c1, hvl]
    apply hK; clear hK K
    refine L_dec (j < l.length) (by simp) (fun hjl => ?_) (fun hjg => L_exit ?_)
    · refine L_block ?_
      obtain ⟨rz, pz, vz, hix, hldz⟩ := il_ix hs1 hjl
      have htk : keyS (l.take (j + 1)) i = keyS (l.take j) i + bN l[j] i := by rw [List.take_succ_eq_append_getElem hjl, keyS_snoc]
      have hkl : keyS (l.take j) i ≤ 64 := Nat.le_trans (keyS_le _ _) (by rw [List.length_take]; omega)
      have hx := hr.ok64 l[j] (List.getElem_mem hjl)
      generalize l[j] = x at hldz htk hx
      have hshr : ∀ tt ll, binV Try.prog .shr tt ll (.int .i64 (x : Int)) (.int .i64 (i : Int)) = some (.int .i64 ((x >>> i : Nat) : Int)) := fun _ _ => n_shr x i (by omega)
      have hrm : ((x >>> i : Nat) : Int).tmod 2 = ((x >>> i % 2 : Nat) : Int) := rem_nat (x >>> i) 2
      have hy : x >>> i < 64 := Nat.lt_of_le_of_lt (by rw [Nat.shiftRight_eq_div_pow]; exact Nat.div_le_self _ _) hx
      have hb : x >>> i % 2 = bN x i := by
        unfold bN
        rw [Nat.testBit, Nat.and_comm, Nat.and_one_is_mod]
        rcases Nat.mod_two_eq_zero_or_one (x >>> i) with h | h <;> simp [h]
      rw [hb] at hrm
      have hb1 : bN x i ≤ 1 := by unfold bN; split <;> omega
      generalize bN x i = w at hrm hb1 htk hb
      generalize hye : x >>> i = y at hshr hrm hy hb
      refine L_reg [1, 5, 6, 7, 8, 35] (fun K hK => ?_)
      simp [c1, hix, hldz, hshr, hrm]
      apply hK; clear hK K
      by_cases hw : w = 1
      · refine L_true (by simp [hw]) ?_
        refine L_reg [1, 5, 6, 7, 8] (fun K hK => ?_)
        simp [wrap_i64 (a := (keyS (l.take j) i : Int) + 1) (by omega)]
        apply hK; clear hK K
        refine L_reg [1, 5, 6, 7, 8] (fun K hK => ?_)
        simp [wrap_i64 (a := (j : Int) + 1) (by omega)]
        apply hK; clear hK K
        exact ⟨l.length - (j + 1), [.int .i64 (keyS (l.take (j + 1)) i : Nat), .int .i64 (j + 1 : Nat)], by omega, by rw [htk, hw]; simp, j + 1, rfl, by omega, rfl, rfl⟩
      · refine L_false (by simp; omega) ?_
        refine L_reg [1, 5, 6, 7, 8] (fun K hK => ?_)
        simp [wrap_i64 (a := (j : Int) + 1) (by omega)]
        apply hK; clear hK K
        have hw0 : w = 0 := by omega
        exact ⟨l.length - (j + 1), [.int .i64 (keyS (l.take (j + 1)) i : Nat), .int .i64 (j + 1 : Nat)], by omega, by rw [htk, hw0]; simp, j + 1, rfl, by omega, rfl, rfl⟩
    · have e : j = l.length := by omega
      subst e
      rw [List.take_length]
      have hcat : (kL (i + 1) (keyS l)).map (AV.int .i64) = (kL i (keyS l)).map (.int .i64) ++ [.int .i64 (keyS l i : Nat)] := by
        unfold kL
        rw [List.range_succ, List.map_append, List.map_append]; rfl
      obtain ⟨v', H3, happ, ho3, hE3⟩ := ownF_append (P := Try.prog) (m := 1) (x := .int .i64 (keyS l i : Nat)) hE1 el22 el22 ho rfl (by simp [kL_len]; omega)
      refine L_reg [1, 5, 6] (fun K hK => ?_)
      simp [happ]
      apply hK; clear hK K
      refine L_reg [1, 5, 6] (fun K hK => ?_)
      simp [wrap_i64 (a := (i : Int) + 1) (by omega)]
      apply hK; clear hK K
      refine ⟨n - (i + 1), [v', .int .i64 (i + 1 : Nat)], by omega, by simp, i + 1, v', rfl, by omega, rfl, hE3, ?_⟩
      rw [hcat]; exact ho3
  · have e : n = i := by omega
    subst e
    refine L_reg [2, 3] (fun K hK => ?_)
    simp
    apply hK; clear hK K
    exact L_ret ⟨.inr rfl, _, rfl, h v _ (ho.mono hE.1) (hE.trans hE1)⟩
theorem MakeR_bad (n : Int) (l : List Int) (s : AV) (hlen : l.length ≤ 1000000) (hc : chk n l ≠ 0) (H : AH) (hs : Ls H s l) (Q : AV → AH → Prop) (h : Q (.tuple [cA 0 nilS, .int .i64 (chk n l)]) H) : AC Try.prog 36 [cA n s] H Q := by
  refine AC.quiet (belB_ce _ _ _) (fun Q h => ?_) Q h
  refine L_body 51 Try.func36 rfl rfl ?_
  have hk := ls_known hs
  obtain ⟨I, hI, hz⟩ := zeroT_some zt41
  refine L_reg [1, 2] (fun K hK => ?_)
  simp [cA, AV.isU, acells, hI, hz]
  apply hK; clear hK K
  have h1 : (H ++ [AObj.row [.int .i64 n, s] 0 0 false, AObj.row [.int .i64 0, nilS] 0 0 false])[H.length]? = some (.row [.int .i64 n, s] 0 0 false) := by simp
  have h2 : (H ++ [AObj.row [.int .i64 n, s] 0 0 false, AObj.row [.int .i64 0, nilS] 0 0 false])[H.length + 1]? = some (.row [.int .i64 0, nilS] 0 0 false) := by simp
  have hE : Ext H (H ++ [AObj.row [.int .i64 n, s] 0 0 false, AObj.row [.int .i64 0, nilS] 0 0 false]) := .push _ _
  generalize H ++ [AObj.row [.int .i64 n, s] 0 0 false, AObj.row [.int .i64 0, nilS] 0 0 false] = HA at h1 h2 hE ⊢
  have hp1 := (List.getElem?_eq_some_iff.1 h1).1
  have hp2 := (List.getElem?_eq_some_iff.1 h2).1
  have c0 := ld_c0 h1
  have c1 := ld_c1 h1 hk
  have a2 := ldn_c h1 hk
  have hsA := hs.ext hE
  refine L_reg [1, 2, 4] (fun K hK => ?_)
  simp [okFn_low, a2]
  refine CheckR_q n l s hlen _ hsA _ ?_
  simp
  apply hK; clear hK K
  refine L_reg [1, 2, 4, 12] (fun K hK => ?_)
  simp
  apply hK; clear hK K
  refine L_true (by simp [hc]) ?_
  have hst2 := st2 (t := 41) ag41 (n := 0) (s := nilS) h2 (by intro h; cases h) rfl
  refine L_reg [2, 3] (fun K hK => ?_)
  simp [bd41z, hst2]
  apply hK; clear hK K
  refine L_ret ⟨.inr rfl, _, res_cell_tmp rfl ?_ rfl, h _ (hE.set _ (by omega))⟩
  simp [ldn_c (s := nilS) (get_set h2) rfl, cA]
theorem ThinR_bad (n : Int) (l : List Int) (s : AV) (hlen : l.length ≤ 1000000) (hc : chk n l ≠ 0) (H : AH) (hs : Ls H s l) (Q : AV → AH → Prop) (h : Q (.tuple [cA 0 nilS, .int .i64 (chk n l)]) H) : AC Try.prog 40 [cA n s] H Q := by
  refine AC.quiet (belB_ce _ _ _) (fun Q h => ?_) Q h
  refine L_body 74 Try.func40 rfl rfl ?_
  have hk := ls_known hs
  obtain ⟨I, hI, hz⟩ := zeroT_some zt41
  refine L_reg [1, 2] (fun K hK => ?_)
  simp [cA, AV.isU, acells, hI, hz]
  apply hK; clear hK K
  have h1 : (H ++ [AObj.row [.int .i64 n, s] 0 0 false, AObj.row [.int .i64 0, nilS] 0 0 false])[H.length]? = some (.row [.int .i64 n, s] 0 0 false) := by simp
  have h2 : (H ++ [AObj.row [.int .i64 n, s] 0 0 false, AObj.row [.int .i64 0, nilS] 0 0 false])[H.length + 1]? = some (.row [.int .i64 0, nilS] 0 0 false) := by simp
  have hE : Ext H (H ++ [AObj.row [.int .i64 n, s] 0 0 false, AObj.row [.int .i64 0, nilS] 0 0 false]) := .push _ _
  generalize H ++ [AObj.row [.int .i64 n, s] 0 0 false, AObj.row [.int .i64 0, nilS] 0 0 false] = HA at h1 h2 hE ⊢
  have hp1 := (List.getElem?_eq_some_iff.1 h1).1
  have hp2 := (List.getElem?_eq_some_iff.1 h2).1
  have c0 := ld_c0 h1
  have c1 := ld_c1 h1 hk
  have a2 := ldn_c h1 hk
  have hsA := hs.ext hE
  refine L_reg [1, 2, 4] (fun K hK => ?_)
  simp [okFn_low, a2]
  refine CheckP_q n l s hlen _ hsA _ ?_
  simp
  apply hK; clear hK K
  refine L_reg [1, 2, 4, 13] (fun K hK => ?_)
  simp
  apply hK; clear hK K
  refine L_true (by simp [hc]) ?_
  have hst2 := st2 (t := 41) ag41 (n := 0) (s := nilS) h2 (by intro h; cases h) rfl
  refine L_reg [2, 3] (fun K hK => ?_)
  simp [bd41z, hst2]
  apply hK; clear hK K
  refine L_ret ⟨.inr rfl, _, res_cell_tmp rfl ?_ rfl, h _ (hE.set _ (by omega))⟩
  simp [ldn_c (s := nilS) (get_set h2) rfl, cA]
theorem MakeR_ok {n : Nat} {l : List Nat} (hr : OkR n l) (s : AV) (H : AH) (hs : Ls H s (il l)) (Q : AV → AH → Prop) (h : ∀ v H', OwnF H.length H' v ((il (locksS n l)).map (.int .i64)) → Ext H H' → Q (.tuple [cA n v, .int .i64 0]) H') : AC Try.prog 36 [cA n s] H Q := by
  have hc := ok_chk hr
  have hlen : (il l).length ≤ 1000000 := by rw [il_len]; have := hr.len; omega
  have h64 := pw64 hr.n6
  have hp := pw n
  refine L_body 51 Try.func36 rfl rfl ?_
  have hk := ls_known hs
  obtain ⟨I, hI, hz⟩ := zeroT_some zt41
  refine L_reg [1, 2] (fun K hK => ?_)
  simp [cA, AV.isU, acells, hI, hz]
  apply hK; clear hK K
  have h1 : (H ++ [AObj.row [.int .i64 n, s] 0 0 false, AObj.row [.int .i64 0, nilS] 0 0 false])[H.length]? = some (.row [.int .i64 n, s] 0 0 false) := by simp
  have h2 : (H ++ [AObj.row [.int .i64 n, s] 0 0 false, AObj.row [.int .i64 0, nilS] 0 0 false])[H.length + 1]? = some (.row [.int .i64 0, nilS] 0 0 false) := by simp
  have hE : Ext H (H ++ [AObj.row [.int .i64 n, s] 0 0 false, AObj.row [.int .i64 0, nilS] 0 0 false]) := .push _ _
  generalize H ++ [AObj.row [.int .i64 n, s] 0 0 false, AObj.row [.int .i64 0, nilS] 0 0 false] = HA at h1 h2 hE ⊢
  have hp1 := (List.getElem?_eq_some_iff.1 h1).1
  have hp2 := (List.getElem?_eq_some_iff.1 h2).1
  have c0 := ld_c0 h1
  have c1 := ld_c1 h1 hk
  have a2 := ldn_c h1 hk
  have hsA := hs.ext hE
  have hshl : ∀ tt ll, binV Try.prog .shl tt ll (.int .i64 1) (.int .i64 (n : Int)) = some (.int .i64 ((2 ^ n : Nat) : Int)) := fun _ _ => n_shl n hr.n6
  refine L_reg [1, 2, 4] (fun K hK => ?_)
  simp [okFn_low, a2]
  refine CheckR_q n (il l) s hlen _ hsA _ ?_
  simp [hc]
  apply hK; clear hK K
  refine L_reg [1, 2, 4, 12] (fun K hK => ?_)
  simp
  apply hK; clear hK K
  refine L_false rfl ?_
  have hst := st2 (t := 41) ag41 (n := n) (s := nilS) (k := 0) (n' := 0) (s' := nilS) (p := HA.length) (H := HA ++ [AObj.row [.int .i64 0, nilS] 0 0 false]) (by simp) (by intro h; cases h) rfl
  refine L_reg [1, 2, 5] (fun K hK => ?_)
  simp [c0, bd41n, hI, hz, hst]
  apply hK; clear hK K
  have h3 : (HA ++ [AObj.row [.int .i64 n, nilS] 0 0 false])[HA.length]? = some (.row [.int .i64 n, nilS] 0 0 false) := by simp
  have hE3 : Ext HA (HA ++ [AObj.row [.int .i64 n, nilS] 0 0 false]) := .push _ _
  generalize HA ++ [AObj.row [.int .i64 n, nilS] 0 0 false] = HC at h3 hE3 ⊢
  obtain ⟨q, hq⟩ : ∃ q, HA.length = q := ⟨_, rfl⟩
  have hqA : HA.length ≤ q := by omega
  rw [hq] at h3
  try rw [hq]
  have h1C : HC[H.length]? = some (.row [.int .i64 n, s] 0 0 false) := by rw [hE3.2 _ hp1]; exact h1
  have aC := ldn_c h1C hk
  refine L_reg [1, 2, 5, 6] (fun K hK => ?_)
  simp [okFn_low, aC]
  refine barredR_ac hr s _ (hsA.ext hE3) _ fun b HB hob hEC => ?_
  simp
  apply hK; clear hK K
  have hEB := hE3.trans hEC
  have lb := ownF_ls hob
  have hbn := most_nodup (2 ^ n) (within l)
  have hbl := most_len (2 ^ n) (within l)
  have hbo := most_ok (2 ^ n) (within l)
  have hlk : ∀ g, g < 2 ^ n → (lst (2 ^ n) (need n (within l)) g = true ↔ cm n g ∈ mostS (2 ^ n) (within l)) := fun g hg => by
    rw [← lock_is hg, mem_least]; exact ⟨fun h => ⟨hg, h⟩, fun h => h.2⟩
  obtain ⟨B, hB⟩ : ∃ B, mostS (2 ^ n) (within l) = B := ⟨_, rfl⟩
  rw [hB] at lb hbn hbl hbo hlk
  have hqB : q < HB.length := by
    have := (List.getElem?_eq_some_iff.1 h3).1
    have := hEC.1; omega
  have h3B : HB[q]? = some (.row [.int .i64 n, nilS] 0 0 false) := by rw [hEC.2 _ (List.getElem?_eq_some_iff.1 h3).1]; exact h3
  have h1B : HB[H.length]? = some (.row [.int .i64 n, s] 0 0 false) := by rw [hEB.2 _ hp1]; exact h1
  have h2B : HB[H.length + 1]? = some (.row [.int .i64 0, nilS] 0 0 false) := by rw [hEB.2 _ hp2]; exact h2
  have lbq : ∀ {H' : AH} {v : AV} {k : Nat} {L : List Int}, Acc HB q n H' v k L → Ls H' b (il B) := by
    intro H' v k L ha
    obtain ⟨r, off, ver, sz, full, e, hld⟩ := lb
    refine ⟨r, off, ver, sz, full, e, fun i hi => ?_⟩
    obtain ⟨r', e1, e2, e3⟩ := hld i hi
    refine ⟨r', e1, e2, ?_⟩
    have hne : r' ≠ q := fun he => by
      have h8 := ownF_ge hob (r := r') (by rw [e, e1]; rfl)
      have h9 := (List.getElem?_eq_some_iff.1 h3).1
      omega
    have : HB[r']? = H'[r']? := by
      unfold ld at e3
      cases hx : HB[r']? with
      | none => rw [hx] at e3; cases e3
      | some o => rw [ha.old hx hne]
    unfold ld at e3 ⊢
    rw [← this]; exact e3
  clear c0 c1 a2 aC hst
  obtain ⟨N, hN⟩ : ∃ N, 2 ^ n = N := ⟨_, rfl⟩
  have hcm : ∀ g, cm n g = N - 1 - g := fun g => by unfold cm; rw [hN]
  have e1 : (N : Int) - 1 = ((N - 1 : Nat) : Int) := by have := pw n; omega
  have hLk : locksS n l = (List.range N).filter (lst N (need n (within l))) := by unfold locksS leastS; rw [hN]
  rw [hN] at hshl h64 hp hbl hbo hlk
  refine L_reg [1, 2, 5, 6, 7] (fun K hK => ?_)
  simp
  apply hK; clear hK K
  refine L_block (L_loopV [7] (fun z vs H' => ∃ (g k : Nat) (v : AV), z = N - g ∧ g ≤ N ∧ vs = [.int .i64 g] ∧ Acc HB q n H' v k (il ((List.range g).filter (lst N (need n (within l)))))) _ [.int .i64 (0 : Nat)] rfl ⟨0, 0, nilS, rfl, by omega, rfl, .refl _ _, h3B, OwnF.nil _ _⟩ ?_)
  rintro z _ H4 ⟨g, k, v, rfl, hg, rfl, ha⟩
  have c0 := ld_c0 (ha.old h1B (by omega))
  refine L_reg [1, 2, 5, 6, 7, 24] (fun K hK => ?_)
  simp [c0, hshl]
  apply hK; clear hK K
  refine L_dec (g < N) (by simp) (fun hlt => ?_) (fun hge => L_exit ?_)
  · refine L_block ?_
    have hfl := filter_len (N := g) (lst N (need n (within l)))
    refine L_reg [1, 2, 5, 6, 7, 8] (fun K hK => ?_)
    simp
    apply hK; clear hK K
    refine L_block (L_loopV [8] (fun z vs H' => ∃ (i k : Nat) (v : AV), z = B.length - i ∧ i ≤ B.length ∧ vs = [.int .i64 i] ∧ Acc HB q n H' v k (il ((List.range g).filter (lst N (need n (within l))) ++ if cm n g ∈ B.take i then [g] else []))) _ [.int .i64 (0 : Nat)] rfl ⟨0, k, v, rfl, by omega, rfl, by simpa using ha⟩ ?_)
    clear c0 ha
    rintro z _ H4 ⟨i, k, v, rfl, hi, rfl, ha⟩
    have lb4 := lbq ha
    have hvl := ls_len lb4
    rw [il_len] at hvl
    have c0 := ld_c0 (ha.old h1B (by omega))
    refine L_reg [1, 2, 5, 6, 7, 8, 30] (fun K hK => ?_)
    simp [hvl]
    apply hK; clear hK K
    refine L_dec (i < B.length) (by simp) (fun hil => ?_) (fun hig => L_exit ?_)
    · refine L_block ?_
      obtain ⟨rz, pz, vz, hix, hldz⟩ := il_ix lb4 hil
      have hxo := hbo B[i] (List.getElem_mem hil)
      have htk : B.take (i + 1) = B.take i ++ [B[i]] := by rw [List.take_succ_eq_append_getElem hil]
      have hnot : B[i] ∉ B.take i := by
        have hn := hbn
        rw [← List.take_append_drop i B, List.drop_eq_getElem_cons hil, List.nodup_append] at hn
        intro hm
        exact hn.2.2 _ hm _ List.mem_cons_self rfl
      generalize B[i] = x at hldz hxo htk hnot
      refine L_regT mixed [1, 2, 5, 6, 7, 8, 43] (by kernel_rfl) (fun K hK => ?_)
      simp [hix, hldz, c0, hshl, e1, wrap_i64 (a := ((N - 1 : Nat) : Int)) (by omega), wrap_i64 (a := (x : Int) + g) (by omega)]
      apply hK; clear hK K
      by_cases hxg : x + g = N - 1
      · have hxe : x = cm n g := by rw [hcm]; omega
        rw [hxe] at hnot htk
        rw [if_neg hnot, List.append_nil] at ha
        obtain ⟨v', H5, H6, happ, hst, ha2⟩ := ha.step hqB (g : Int) (by rw [il_len]; omega)
        refine L_true (by simp; omega) ?_
        refine L_reg [1, 2, 5, 6, 7, 8] (fun K hK => ?_)
        simp [ha.ld, happ, hst]
        apply hK; clear hK K
        refine L_reg [1, 2, 5, 6, 7, 8] (fun K hK => ?_)
        simp [wrap_i64 (a := (i : Int) + 1) (by omega)]
        apply hK; clear hK K
        refine ⟨B.length - (i + 1), [.int .i64 (i + 1 : Nat)], by omega, by simp, i + 1, min k 1, v', rfl, by omega, rfl, ?_⟩
        rw [htk, if_pos (by simp), il_app]
        exact ha2
      · have hxe : cm n g ≠ x := by rw [hcm]; omega
        refine L_false (by simp; omega) ?_
        refine L_reg [1, 2, 5, 6, 7, 8] (fun K hK => ?_)
        simp [wrap_i64 (a := (i : Int) + 1) (by omega)]
        apply hK; clear hK K
        refine ⟨B.length - (i + 1), [.int .i64 (i + 1 : Nat)], by omega, by simp, i + 1, k, v, rfl, by omega, rfl, ?_⟩
        have : (cm n g ∈ B.take (i + 1)) ↔ (cm n g ∈ B.take i) := by rw [htk]; simp [hxe]
        rw [show (if cm n g ∈ B.take (i + 1) then [g] else []) = (if cm n g ∈ B.take i then [g] else []) by simp only [this]]
        exact ha
    · have e : i = B.length := by omega
      subst e
      rw [List.take_length] at ha
      refine L_reg [1, 2, 5, 6, 7] (fun K hK => ?_)
      simp [wrap_i64 (a := (g : Int) + 1) (by omega)]
      apply hK; clear hK K
      refine ⟨N - (g + 1), [.int .i64 (g + 1 : Nat)], by omega, by simp, g + 1, k, v, rfl, by omega, rfl, ?_⟩
      rw [rng_next]
      have := hlk g hlt
      by_cases hm : cm n g ∈ B
      · rw [if_pos hm] at ha
        rw [if_pos (this.2 hm)]; exact ha
      · rw [if_neg hm] at ha
        rw [if_neg (fun h => hm (this.1 h))]; exact ha
  · have e : N = g := by omega
    subst e
    rw [← hLk] at ha
    obtain ⟨-, m1, -⟩ := sl_known (ownF_sl ha.own)
    have h2' := ha.old h2B (by omega)
    have hst2 := st2 (t := 41) ag41 (n := n) (s := v) h2' (by intro h; cases h) m1
    have aq := ldn_c ha.row (sl_known (ownF_sl ha.own)).1
    refine L_reg [2, 3] (fun K hK => ?_)
    simp [aq, hst2]
    apply hK; clear hK K
    refine L_ret ⟨.inr rfl, _, res_cell_tmp rfl ?_ rfl, h v _ ((ownF_set ha.own (by omega) _).mono (by omega)) (((ha.ext (hE.trans hEB) (by omega))).set _ (by omega))⟩
    simp [ldn_c (get_set h2') (sl_known (ownF_sl ha.own)).1, cA]
theorem thin_b {N : Nat} {l : List Nat} (hl : okG N l) {g : Nat} (hg : g < N) : ((l.any fun y => y == g) && l.all fun y => y == g || !sub y g) = lst N (hasG l) g := by
  rw [Bool.eq_iff_iff, lst_iff, Bool.and_eq_true, List.any_eq_true, List.all_eq_true]
  have hm : ∀ x, hasG l x = true ↔ x ∈ l := fun x => by unfold hasG; exact List.contains_iff_mem
  constructor
  · rintro ⟨⟨y, h1, h2⟩, h3⟩
    rw [beq_iff_eq] at h2
    subst h2
    refine ⟨(hm y).2 h1, fun o ho hs hh => ?_⟩
    have := h3 o ((hm o).1 hh)
    rw [hs] at this
    simpa using this
  · rintro ⟨h1, h2⟩
    refine ⟨⟨g, (hm g).1 h1, by simp⟩, fun y hy => ?_⟩
    cases hs : sub y g with
    | false => simp
    | true => simp [h2 y (hl y hy) hs ((hm y).2 hy)]
theorem ThinR_ok {n : Nat} {l : List Nat} (hr : OkR n l) (s : AV) (H : AH) (hs : Ls H s (il l)) (Q : AV → AH → Prop) (h : ∀ v H', OwnF H.length H' v ((il (leastS (2 ^ n) (hasG l))).map (.int .i64)) → Ext H H' → Q (.tuple [cA n v, .int .i64 0]) H') : AC Try.prog 40 [cA n s] H Q := by
  have hc := ok_chk hr
  have hlen : (il l).length ≤ 1000000 := by rw [il_len]; have := hr.len; omega
  have h64 := pw64 hr.n6
  have hp := pw n
  refine L_body 74 Try.func40 rfl rfl ?_
  have hk := ls_known hs
  obtain ⟨I, hI, hz⟩ := zeroT_some zt41
  refine L_reg [1, 2] (fun K hK => ?_)
  simp [cA, AV.isU, acells, hI, hz]
  apply hK; clear hK K
  have h1 : (H ++ [AObj.row [.int .i64 n, s] 0 0 false, AObj.row [.int .i64 0, nilS] 0 0 false])[H.length]? = some (.row [.int .i64 n, s] 0 0 false) := by simp
  have h2 : (H ++ [AObj.row [.int .i64 n, s] 0 0 false, AObj.row [.int .i64 0, nilS] 0 0 false])[H.length + 1]? = some (.row [.int .i64 0, nilS] 0 0 false) := by simp
  have hE : Ext H (H ++ [AObj.row [.int .i64 n, s] 0 0 false, AObj.row [.int .i64 0, nilS] 0 0 false]) := .push _ _
  generalize H ++ [AObj.row [.int .i64 n, s] 0 0 false, AObj.row [.int .i64 0, nilS] 0 0 false] = HA at h1 h2 hE ⊢
  have hp1 := (List.getElem?_eq_some_iff.1 h1).1
  have hp2 := (List.getElem?_eq_some_iff.1 h2).1
  have c0 := ld_c0 h1
  have c1 := ld_c1 h1 hk
  have a2 := ldn_c h1 hk
  have hsA := hs.ext hE
  have hshl : ∀ tt ll, binV Try.prog .shl tt ll (.int .i64 1) (.int .i64 (n : Int)) = some (.int .i64 ((2 ^ n : Nat) : Int)) := fun _ _ => n_shl n hr.n6
  refine L_reg [1, 2, 4] (fun K hK => ?_)
  simp [okFn_low, a2]
  refine CheckP_q n (il l) s hlen _ hsA _ ?_
  simp [hc]
  apply hK; clear hK K
  refine L_reg [1, 2, 4, 13] (fun K hK => ?_)
  simp
  apply hK; clear hK K
  refine L_false rfl ?_
  have hst := st2 (t := 41) ag41 (n := n) (s := nilS) (k := 0) (n' := 0) (s' := nilS) (p := HA.length) (H := HA ++ [AObj.row [.int .i64 0, nilS] 0 0 false]) (by simp) (by intro h; cases h) rfl
  refine L_reg [1, 2, 5] (fun K hK => ?_)
  simp [c0, bd41n, hI, hz, hst]
  apply hK; clear hK K
  have h3 : (HA ++ [AObj.row [.int .i64 n, nilS] 0 0 false])[HA.length]? = some (.row [.int .i64 n, nilS] 0 0 false) := by simp
  have hE3 : Ext HA (HA ++ [AObj.row [.int .i64 n, nilS] 0 0 false]) := .push _ _
  generalize HA ++ [AObj.row [.int .i64 n, nilS] 0 0 false] = HC at h3 hE3 ⊢
  obtain ⟨q, hq⟩ : ∃ q, HA.length = q := ⟨_, rfl⟩
  have hqA : HA.length ≤ q := by omega
  rw [hq] at h3
  try rw [hq]
  have hEB : Ext HA HC := hE3
  have h3B := h3
  have h1B : HC[H.length]? = some (.row [.int .i64 n, s] 0 0 false) := by rw [hEB.2 _ hp1]; exact h1
  have h2B : HC[H.length + 1]? = some (.row [.int .i64 0, nilS] 0 0 false) := by rw [hEB.2 _ hp2]; exact h2
  have hqB : q < HC.length := (List.getElem?_eq_some_iff.1 h3).1
  have hok := hr.ok
  have hl64 := hr.len
  clear c0 c1 a2 hst
  obtain ⟨N, hN⟩ : ∃ N, 2 ^ n = N := ⟨_, rfl⟩
  have hLk : leastS (2 ^ n) (hasG l) = (List.range N).filter (lst N (hasG l)) := by unfold leastS; rw [hN]
  rw [hN] at hshl h64 hp hok
  refine L_reg [1, 2, 5, 6] (fun K hK => ?_)
  simp
  apply hK; clear hK K
  refine L_block (L_loopV [6] (fun z vs H' => ∃ (g k : Nat) (v : AV), z = N - g ∧ g ≤ N ∧ vs = [.int .i64 g] ∧ Acc HC q n H' v k (il ((List.range g).filter (lst N (hasG l))))) _ [.int .i64 (0 : Nat)] rfl ⟨0, 0, nilS, rfl, by omega, rfl, .refl _ _, h3B, OwnF.nil _ _⟩ ?_)
  rintro z _ H4 ⟨g, k, v, rfl, hg, rfl, ha⟩
  have h1' := ha.old h1B (by omega)
  have c0 := ld_c0 h1'
  have c1 := ld_c1 h1' hk
  have hs4 := ha.ls hE3 hqA hsA
  have hvl := ls_len hs4
  rw [il_len] at hvl
  refine L_reg [1, 2, 5, 6, 23] (fun K hK => ?_)
  simp [c0, hshl]
  apply hK; clear hK K
  refine L_dec (g < N) (by simp) (fun hlt => ?_) (fun hge => L_exit ?_)
  · refine L_block ?_
    have hfl := filter_len (N := g) (lst N (hasG l))
    refine L_reg [1, 2, 5, 6, 7, 8] (fun K hK => ?_)
    simp
    apply hK; clear hK K
    refine L_reg [1, 2, 5, 6, 7, 8, 9] (fun K hK => ?_)
    simp
    apply hK; clear hK K
    refine L_block (L_loopV [7, 8, 9] (fun z vs H' => ∃ i : Nat, z = l.length - i ∧ i ≤ l.length ∧ vs = [.bool ((l.take i).any fun y => y == g), .bool ((l.take i).all fun y => y == g || !sub y g), .int .i64 i] ∧ H4 = H') _ [.bool false, .bool true, .int .i64 (0 : Nat)] rfl ⟨0, rfl, by omega, rfl, rfl⟩ ?_)
    rintro z _ _ ⟨i, rfl, hi, rfl, rfl⟩
    refine L_reg [1, 2, 5, 6, 7, 8, 9, 30] (fun K hK => ?_)
    simp [c1, hvl]
    apply hK; clear hK K
    refine L_dec (i < l.length) (by simp) (fun hil => ?_) (fun hig => L_exit ?_)
    · refine L_block ?_
      obtain ⟨rz, pz, vz, hix, hldz⟩ := il_ix hs4 hil
      have hx64 := hr.ok64 l[i] (List.getElem_mem hil)
      have t1 : (l.take (i + 1)).any (fun y => y == g) = ((l.take i).any (fun y => y == g) || l[i] == g) := by rw [List.take_succ_eq_append_getElem hil, List.any_append]; simp
      have t2 : (l.take (i + 1)).all (fun y => y == g || !sub y g) = ((l.take i).all (fun y => y == g || !sub y g) && (l[i] == g || !sub l[i] g)) := by rw [List.take_succ_eq_append_getElem hil, List.all_append]; simp
      generalize l[i] = x at hldz hx64 t1 t2
      have eb : ((x : Int) == (g : Int)) = (x == g) := by rw [Bool.eq_iff_iff, beq_iff_eq, beq_iff_eq]; omega
      generalize (l.take i).any (fun y => y == g) = p1 at t1 ⊢
      generalize (l.take i).all (fun y => y == g || !sub y g) = p2 at t2 ⊢
      refine L_reg [1, 2, 5, 6, 7, 8, 9] (fun K hK => ?_)
      suffices hk : K [(1, .ptr H.length 0 0), (2, .ptr (H.length + 1) 0 0), (5, .ptr q 0 0), (6, .int .i64 g), (7, .bool (p1 || x == g)), (8, .bool p2), (9, .int .i64 i)] H4 by
        cases p1 with
        | true => simp [pickV]; simpa using hk
        | false => simp [pickV, c1, hix, hldz, eb]; simpa using hk
      apply hK; clear hK K
      rw [← t1]
      refine L_reg [1, 2, 5, 6, 7, 8, 9] (fun K hK => ?_)
      suffices hk : K [(1, .ptr H.length 0 0), (2, .ptr (H.length + 1) 0 0), (5, .ptr q 0 0), (6, .int .i64 g), (7, .bool ((l.take (i + 1)).any fun y => y == g)), (8, .bool (p2 && (x == g || !sub x g))), (9, .int .i64 i)] H4 by
        cases p2 with
        | false => simp [pickV]; simpa using hk
        | true =>
          by_cases hxg : x = g
          · have e2 : (x == g) = true := by simpa using hxg
            rw [e2] at hk eb
            simp [pickV, c1, hix, hldz, eb]
            simpa using hk
          · have e2 : (x == g) = false := by simpa using hxg
            rw [e2] at hk eb
            simp [c1, hix, hldz, eb, okFn_low]
            refine lies_q x g hx64 (by omega) _ _ ?_
            simp [pickV]
            simpa using hk
      apply hK; clear hK K
      rw [← t2]
      refine L_reg [1, 2, 5, 6, 7, 8, 9] (fun K hK => ?_)
      simp [wrap_i64 (a := (i : Int) + 1) (by omega)]
      apply hK; clear hK K
      exact ⟨l.length - (i + 1), [.bool ((l.take (i + 1)).any fun y => y == g), .bool ((l.take (i + 1)).all fun y => y == g || !sub y g), .int .i64 (i + 1 : Nat)], by omega, by rw [Int.natCast_add]; rfl, i + 1, rfl, by omega, rfl, rfl⟩
    · have e : i = l.length := by omega
      subst e
      rw [List.take_length]
      have hb := thin_b hok hlt
      refine L_reg [1, 2, 5, 6, 66] (fun K hK => ?_)
      suffices hk : K [(1, .ptr H.length 0 0), (2, .ptr (H.length + 1) 0 0), (5, .ptr q 0 0), (6, .int .i64 g), (66, .bool (lst N (hasG l) g))] H4 by
        rw [← hb] at hk
        generalize (l.any fun y => y == g) = p1 at hk ⊢
        cases p1 with
        | true => simp [pickV]; simpa using hk
        | false => simp [pickV]; simpa using hk
      apply hK; clear hK K
      have hnx := rng_next (lst N (hasG l)) g
      cases hl : lst N (hasG l) g with
      | true =>
        obtain ⟨v', H5, H6, happ, hst, ha2⟩ := ha.step hqB (g : Int) (by rw [il_len]; omega)
        refine L_true (by simp) ?_
        refine L_reg [1, 2, 5, 6] (fun K hK => ?_)
        simp [ha.ld, happ, hst]
        apply hK; clear hK K
        refine L_reg [1, 2, 5, 6] (fun K hK => ?_)
        simp [wrap_i64 (a := (g : Int) + 1) (by omega)]
        apply hK; clear hK K
        refine ⟨N - (g + 1), [.int .i64 (g + 1 : Nat)], by omega, by simp, g + 1, min k 1, v', rfl, by omega, rfl, ?_⟩
        rw [hnx, hl, if_pos rfl, il_app]
        exact ha2
      | false =>
        refine L_false (by simp) ?_
        refine L_reg [1, 2, 5, 6] (fun K hK => ?_)
        simp [wrap_i64 (a := (g : Int) + 1) (by omega)]
        apply hK; clear hK K
        refine ⟨N - (g + 1), [.int .i64 (g + 1 : Nat)], by omega, by simp, g + 1, k, v, rfl, by omega, rfl, ?_⟩
        rw [hnx, hl, if_neg (by simp), List.append_nil]
        exact ha
  · have e : N = g := by omega
    subst e
    rw [← hLk] at ha
    obtain ⟨-, m1, -⟩ := sl_known (ownF_sl ha.own)
    have h2' := ha.old h2B (by omega)
    have hst2 := st2 (t := 41) ag41 (n := n) (s := v) h2' (by intro h; cases h) m1
    have aq := ldn_c ha.row (sl_known (ownF_sl ha.own)).1
    refine L_reg [2, 3] (fun K hK => ?_)
    simp [aq, hst2]
    apply hK; clear hK K
    refine L_ret ⟨.inr rfl, _, res_cell_tmp rfl ?_ rfl, h v _ ((ownF_set ha.own (by omega) _).mono (by omega)) (((ha.ext (hE.trans hEB) (by omega))).set _ (by omega))⟩
    simp [ldn_c (get_set h2') (sl_known (ownF_sl ha.own)).1, cA]
theorem AnyR_bad (n k : Int) (hb : ¬ (1 ≤ n ∧ n ≤ 6 ∧ 0 ≤ k ∧ k ≤ n)) (H : AH) (Q : AV → AH → Prop) (h : Q (.tuple [cA 0 nilS, .int .i64 1]) H) : AC Try.prog 42 [.int .i64 n, .int .i64 k] H Q := by
  refine AC.quiet (belB_ce _ _ _) (fun Q h => ?_) Q h
  refine L_body 37 Try.func42 rfl rfl ?_
  obtain ⟨I, hI, hz⟩ := zeroT_some zt27
  refine L_reg [0, 1, 4] (fun K hK => ?_)
  simp [hI, hz]
  apply hK; clear hK K
  have h2 : (H ++ [AObj.row [.int .i64 0, nilS] 0 0 false])[H.length]? = some (.row [.int .i64 0, nilS] 0 0 false) := by simp
  have hE : Ext H (H ++ [AObj.row [.int .i64 0, nilS] 0 0 false]) := .push _ _
  generalize H ++ [AObj.row [.int .i64 0, nilS] 0 0 false] = H1 at h2 hE ⊢
  refine L_reg [0, 1, 4, 16] (fun K hK => ?_)
  suffices hk : K [(0, .int .i64 n), (1, .int .i64 k), (4, .ptr H.length 0 0), (16, .bool true)] H1 by
    simp [okFn_low]
    refine in_q n 1 6 _ _ ?_
    by_cases h1 : 1 ≤ n ∧ n ≤ 6
    · rw [decide_eq_true h1]
      simp [okFn_low]
      refine in_q k 0 n _ _ ?_
      rw [decide_eq_false (by omega)]
      simp [pickV]
      simpa using hk
    · rw [decide_eq_false h1]
      simp [pickV]
      simpa using hk
  apply hK; clear hK K
  refine L_true rfl ?_
  have hst2 := st2 (t := 27) ag27 (n := 0) (s := nilS) h2 (by intro h; cases h) rfl
  refine L_reg [4, 5] (fun K hK => ?_)
  simp [bd27z, hst2]
  apply hK; clear hK K
  refine L_ret ⟨.inr rfl, _, res_cell_tmp rfl ?_ rfl, h _ (hE.set _ (by omega))⟩
  simp [ldn_c (s := nilS) (get_set h2) rfl, cA]
theorem AnyR_ok {n k : Nat} (hn1 : 1 ≤ n) (hn6 : n ≤ 6) (hkn : k ≤ n) (H : AH) (Q : AV → AH → Prop) (h : ∀ v H', OwnF H.length H' v ((il (sizeS n k)).map (.int .i64)) → Ext H H' → Q (.tuple [cA n v, .int .i64 0]) H') : AC Try.prog 42 [.int .i64 n, .int .i64 k] H Q := by
  refine L_body 37 Try.func42 rfl rfl ?_
  obtain ⟨I, hI, hz⟩ := zeroT_some zt27
  refine L_reg [0, 1, 4] (fun K hK => ?_)
  simp [hI, hz]
  apply hK; clear hK K
  have h2 : (H ++ [AObj.row [.int .i64 0, nilS] 0 0 false])[H.length]? = some (.row [.int .i64 0, nilS] 0 0 false) := by simp
  have hE : Ext H (H ++ [AObj.row [.int .i64 0, nilS] 0 0 false]) := .push _ _
  generalize H ++ [AObj.row [.int .i64 0, nilS] 0 0 false] = HA at h2 hE ⊢
  have hp2 := (List.getElem?_eq_some_iff.1 h2).1
  refine L_reg [0, 1, 4, 16] (fun K hK => ?_)
  suffices hk : K [(0, .int .i64 n), (1, .int .i64 k), (4, .ptr H.length 0 0), (16, .bool false)] HA by
    simp [okFn_low]
    refine in_q n 1 6 _ _ ?_
    rw [decide_eq_true (by omega)]
    simp [okFn_low]
    refine in_q k 0 n _ _ ?_
    rw [decide_eq_true (by omega)]
    simp [pickV]
    simpa using hk
  apply hK; clear hK K
  refine L_false rfl ?_
  have hst := st2 (t := 27) ag27 (n := n) (s := nilS) (k := 0) (n' := 0) (s' := nilS) (p := HA.length) (H := HA ++ [AObj.row [.int .i64 0, nilS] 0 0 false]) (by simp) (by intro h; cases h) rfl
  refine L_reg [0, 1, 4, 6] (fun K hK => ?_)
  simp [bd27n, hI, hz, hst]
  apply hK; clear hK K
  have h3 : (HA ++ [AObj.row [.int .i64 n, nilS] 0 0 false])[HA.length]? = some (.row [.int .i64 n, nilS] 0 0 false) := by simp
  have hEB : Ext HA (HA ++ [AObj.row [.int .i64 n, nilS] 0 0 false]) := .push _ _
  generalize HA ++ [AObj.row [.int .i64 n, nilS] 0 0 false] = HC at h3 hEB ⊢
  obtain ⟨q, hq⟩ : ∃ q, HA.length = q := ⟨_, rfl⟩
  have hqA : HA.length ≤ q := by omega
  rw [hq] at h3
  try rw [hq]
  have h2B : HC[H.length]? = some (.row [.int .i64 0, nilS] 0 0 false) := by rw [hEB.2 _ hp2]; exact h2
  have hqB : q < HC.length := (List.getElem?_eq_some_iff.1 h3).1
  have hshl : ∀ tt ll, binV Try.prog .shl tt ll (.int .i64 1) (.int .i64 (n : Int)) = some (.int .i64 ((2 ^ n : Nat) : Int)) := fun _ _ => n_shl n hn6
  have h64 := pw64 hn6
  have hp := pw n
  clear hst
  obtain ⟨N, hN⟩ : ∃ N, 2 ^ n = N := ⟨_, rfl⟩
  have hLk : sizeS n k = (List.range N).filter (fun g => pop g == k) := by unfold sizeS; rw [hN]
  rw [hN] at hshl h64 hp
  refine L_reg [0, 1, 4, 6, 7] (fun K hK => ?_)
  simp
  apply hK; clear hK K
  refine L_block (L_loopV [7] (fun z vs H' => ∃ (g st : Nat) (v : AV), z = N - g ∧ g ≤ N ∧ vs = [.int .i64 g] ∧ Acc HC q n H' v st (il ((List.range g).filter (fun g => pop g == k)))) _ [.int .i64 (0 : Nat)] rfl ⟨0, 0, nilS, rfl, by omega, rfl, .refl _ _, h3, OwnF.nil _ _⟩ ?_)
  rintro z _ H4 ⟨g, st, v, rfl, hg, rfl, ha⟩
  refine L_reg [0, 1, 4, 6, 7, 23] (fun K hK => ?_)
  simp [hshl]
  apply hK; clear hK K
  refine L_dec (g < N) (by simp) (fun hlt => ?_) (fun hge => L_exit ?_)
  · refine L_block ?_
    have hfl := filter_len (N := g) (fun g => pop g == k)
    refine L_reg [0, 1, 4, 6, 7, 29] (fun K hK => ?_)
    simp [okFn_low]
    refine size_q g (by omega) _ _ ?_
    simp
    apply hK; clear hK K
    have hnx := rng_next (fun g => pop g == k) g
    by_cases hl : pop g = k
    · obtain ⟨v', H5, H6, happ, hst, ha2⟩ := ha.step hqB (g : Int) (by rw [il_len]; omega)
      refine L_true (by simp; omega) ?_
      refine L_reg [0, 1, 4, 6, 7] (fun K hK => ?_)
      simp [ha.ld, happ, hst]
      apply hK; clear hK K
      refine L_reg [0, 1, 4, 6, 7] (fun K hK => ?_)
      simp [wrap_i64 (a := (g : Int) + 1) (by omega)]
      apply hK; clear hK K
      refine ⟨N - (g + 1), [.int .i64 (g + 1 : Nat)], by omega, by simp, g + 1, min st 1, v', rfl, by omega, rfl, ?_⟩
      rw [hnx, if_pos (by simpa using hl), il_app]
      exact ha2
    · refine L_false (by simp; omega) ?_
      refine L_reg [0, 1, 4, 6, 7] (fun K hK => ?_)
      simp [wrap_i64 (a := (g : Int) + 1) (by omega)]
      apply hK; clear hK K
      refine ⟨N - (g + 1), [.int .i64 (g + 1 : Nat)], by omega, by simp, g + 1, st, v, rfl, by omega, rfl, ?_⟩
      rw [hnx, if_neg (by simpa using hl), List.append_nil]
      exact ha
  · have e : N = g := by omega
    subst e
    rw [← hLk] at ha
    obtain ⟨-, m1, -⟩ := sl_known (ownF_sl ha.own)
    have h2' := ha.old h2B (by omega)
    have hst2 := st2 (t := 27) ag27 (n := n) (s := v) h2' (by intro h; cases h) m1
    have aq := ldn_c ha.row (sl_known (ownF_sl ha.own)).1
    refine L_reg [4, 5] (fun K hK => ?_)
    simp [aq, hst2]
    apply hK; clear hK K
    refine L_ret ⟨.inr rfl, _, res_cell_tmp rfl ?_ rfl, h v _ ((ownF_set ha.own (by omega) _).mono (by omega)) (((ha.ext (hE.trans hEB) (by omega))).set _ (by omega))⟩
    simp [ldn_c (get_set h2') (sl_known (ownF_sl ha.own)).1, cA]
end Go.Proofs.Ytcidcihpkdoejaa.Bo
