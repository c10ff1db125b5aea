/- The reference counts plans. -/
import Derived.Test.YtbimapbcpmeooaaRefP
namespace Go.Proofs.Ytbimapbcpmeooaa.Cl
open Go Go.Proofs.Ytbimapbcpmeooaa Go.Proofs.Ytbimapbcpmeooaa.AX
set_option maxRecDepth 100000
set_option linter.unusedVariables false
theorem vld_bad {S : List Bool} {l : List Nat} (h : S.length = l.length) {i : Nat} (hi : i < l.length) (hS : S.getD i false = true) (hl : l[i] = 0) : vld S l = false := by
  cases hv : vld S l with
  | false => rfl
  | true =>
    have hiS : i < S.length := by omega
    rw [List.getD_eq_getElem?_getD, List.getElem?_eq_getElem hiS] at hS
    have := (vld_iff h).1 hv i hiS hi (by simpa using hS)
    omega
theorem vld_good {S : List Bool} {l : List Nat} (h : S.length = l.length) (hv : ∀ i, i < l.length → S.getD i false = true → 0 < l.getD i 0) : vld S l = true := by
  rw [vld_iff h]
  intro i hi hi' hS
  have := hv i hi' (by rw [List.getD_eq_getElem?_getD, List.getElem?_eq_getElem hi]; simpa using hS)
  rw [List.getD_eq_getElem?_getD, List.getElem?_eq_getElem hi'] at this
  simpa using this
set_option maxHeartbeats 1000000 in
theorem less_ac (x : Nat) (l : List Nat) (s : Nat) (v : AV) (h8 : l.length ≤ 8) (hb : ∀ y ∈ x :: l, y ≤ 8) (hs : s < 2 ^ l.length) (H : AH) (hv : Ls H v (il (x :: l))) (Q : AV → AH → Prop)
    (h1 : vld (bt l.length s) l = true → ∀ v' H', OwnF H.length H' v' ((il (tk (bt l.length s) l)).map (.int .i64)) → Ext H H' → Q (.tuple [v', .bool true]) H')
    (h2 : vld (bt l.length s) l = false → ∀ H', Ext H H' → Q (.tuple [.slice none 0 0 0 1 false, .bool false]) H') : AC Try.prog 90 [v, .int .i64 s] H Q := by
  have hs8 : s < 2 ^ 8 := Nat.lt_of_lt_of_le hs (Nat.pow_le_pow_right (by omega) h8)
  have hvl := ils_len hv
  have hbl := bt_len l.length s
  obtain ⟨S, hS⟩ : ∃ S, bt l.length s = S := ⟨_, rfl⟩
  have hSg := fun i hi => bt_get l.length s i hi
  rw [hS] at h1 h2 hbl hSg
  have htl := tk_len hbl
  refine L_body 32 Try.func90 rfl rfl ?_
  refine L_reg [0, 1] (fun K hK => ?_)
  simp
  apply hK; clear hK K
  refine L_reg [0, 1, 6] (fun K hK => ?_)
  simp
  apply hK; clear hK K
  refine L_reg [0, 1, 6, 7] (fun K hK => ?_)
  simp
  apply hK; clear hK K
  refine L_block (L_loopV [6, 7] (fun q vs H' => ∃ (j : Nat) (u : AV), q = l.length - j ∧ j ≤ l.length ∧ vs = [u, .int .i64 (j + 1 : Nat)] ∧ Ext H H' ∧ OwnF H.length H' u ((il ((tk S l).take j)).map (.int .i64)) ∧ ∀ i, i < j → S.getD i false = true → 0 < l.getD i 0) _ [.slice none 0 0 0 1 false, .int .i64 (1 : Nat)] rfl ⟨0, _, rfl, by omega, rfl, .refl _, OwnF.nil _ _, fun i hi => by omega⟩ ?_)
  rintro q _ H1 ⟨j, u, rfl, hj, rfl, hE, ho, hg⟩
  have hv1 := hv.ext hE
  have hvl1 := ils_len hv1
  refine L_reg [0, 1, 6, 7, 12] (fun K hK => ?_)
  simp [hvl1]
  apply hK; clear hK K
  refine L_dec (j < l.length) (by simp) (fun hlt => ?_) (fun hge => L_exit ?_)
  · refine L_block ?_
    obtain ⟨r1, p1, v1, x1, y1⟩ := il_ix hv1 (i := j + 1) (by simpa using hlt)
    rw [List.getElem_cons_succ] at y1
    have hx8 := hb _ (List.mem_cons_of_mem _ (List.getElem_mem hlt))
    have hgj := hSg j hlt
    have htj := tk_get hlt hbl
    have hld : l.getD j 0 = l[j] := by rw [List.getD_eq_getElem?_getD, List.getElem?_eq_getElem hlt]; rfl
    have hbad := fun hS' hl' => vld_bad hbl hlt hS' hl'
    have hz : s / 2 ^ j ≤ s := Nat.div_le_self _ _
    obtain ⟨z, hzz⟩ : ∃ z, s / 2 ^ j = z := ⟨_, rfl⟩
    rw [hzz] at hgj hz
    have htt : (tk S l).take (j + 1) = (tk S l).take j ++ [(tk S l)[j]'(by rw [htl]; exact hlt)] := by rw [List.take_add_one, List.getElem?_eq_getElem (by rw [htl]; exact hlt)]; rfl
    rw [htj] at htt
    generalize l[j] = y at y1 hx8 htt hld hbad
    have hx1 : ∀ k, aIndexAddr Try.prog 22 v (.int k ((j : Int) + 1)) = some (.ptr r1 p1 v1) := fun k => by rw [← x1 k]; simp
    refine L_regT mixed [0, 1, 6, 7, 8] (by kernel_rfl) (fun K hK => ?_)
    simp [hx1, y1, wrap_i64 (a := (j : Int)) (by omega), shrF s j (by omega), hzz, tmodZ, wrap_i64 (a := (y : Int) - (z : Int) % 2) (by omega)]
    apply hK; clear hK K
    refine L_reg [0, 1, 6, 7, 8, 26] (fun K hK => ?_)
    simp
    apply hK; clear hK K
    refine L_dec ((y : Int) - (z : Int) % 2 < 0) (by simp) (fun c => ?_) (fun c => ?_)
    · refine L_reg [4, 5] (fun K hK => ?_)
      simp
      apply hK; clear hK K
      exact L_ret ⟨.inr rfl, _, rfl, h2 (hbad (by rw [hgj]; simp; omega) (by omega)) _ hE⟩
    · have hval : (y : Int) - (z : Int) % 2 = ((y - if S.getD j false = true then 1 else 0 : Nat) : Int) := by
        rw [hgj]
        by_cases e : z % 2 = 1
        · simp [e]; omega
        · simp [e]; omega
      obtain ⟨w, hw⟩ : ∃ w, y - (if S.getD j false = true then 1 else 0) = w := ⟨_, rfl⟩
      rw [hw] at hval htt
      rw [hval]
      obtain ⟨u', H3, happ, ho3, hE3⟩ := ownF_append (P := Try.prog) (m := 1) (x := .int .i64 (w : Nat)) hE el22 el22 ho rfl (by simp [il_len]; omega)
      refine L_reg [0, 1, 6, 7] (fun K hK => ?_)
      simp [happ]
      apply hK; clear hK K
      refine L_reg [0, 1, 6, 7] (fun K hK => ?_)
      simp [wrap_i64 (a := (j : Int) + 1 + 1) (by omega)]
      apply hK; clear hK K
      refine ⟨l.length - (j + 1), [u', .int .i64 (j + 1 + 1 : Nat)], by omega, by simp, j + 1, u', rfl, by omega, rfl, hE3, ?_, fun i hi hSi => ?_⟩
      · rw [htt, il_snoc, List.map_append]
        exact ho3
      · rcases Nat.lt_or_eq_of_le (Nat.lt_succ_iff.1 hi) with hi | rfl
        · exact hg i hi hSi
        · rw [hld]
          rw [hgj, decide_eq_true_eq] at hSi
          omega
  · have e : j = l.length := by omega
    subst e
    rw [List.take_of_length_le (by omega)] at ho
    refine L_reg [4, 5] (fun K hK => ?_)
    simp
    apply hK; clear hK K
    exact L_ret ⟨.inr rfl, _, rfl, h1 (vld_good hbl hg) _ _ ho hE⟩
theorem mem_tk : ∀ {S : List Bool} {l : List Nat} {n : Nat}, (∀ y ∈ l, y ≤ n) → ∀ y ∈ tk S l, y ≤ n
  | [], l, n, h, y, hy => by simp [tk] at hy
  | true :: S, [], n, h, y, hy => by simp [tk] at hy
  | false :: S, [], n, h, y, hy => by simp [tk] at hy
  | true :: S, z :: l, n, h, y, hy => by
    rcases List.mem_cons.1 hy with rfl | hy
    · have := h z (by simp); omega
    · exact mem_tk (fun w hw => h w (by simp [hw])) y hy
  | false :: S, z :: l, n, h, y, hy => by
    rcases List.mem_cons.1 hy with rfl | hy
    · exact h y (by simp)
    · exact mem_tk (fun w hw => h w (by simp [hw])) y hy
theorem shl1 (m : Nat) (hm : m ≤ 30) : (1 : Int) * 2 ^ m = ((2 ^ m : Nat) : Int) := by norm_cast; simp
theorem cntb {c : List Nat} (h : c.length ≤ 8) : cnt c.length c ≤ 2 ^ 28 := cnt_le h
set_option maxHeartbeats 2000000 in
theorem count_ac : ∀ (n : Nat) (c : List Nat) (v : AV), c.length = n → n ≤ 8 → (∀ y ∈ c, y ≤ 8) → ∀ (H : AH), Ls H v (il c) → ∀ (Q : AV → AH → Prop), (∀ H', Ext H H' → Q (.int .i64 (cnt c.length c : Nat)) H') → AC Try.prog 70 [v] H Q
  | 0, c, v, hn, h8, hb, H, hv, Q, h => by
    have hvl := ils_len hv
    obtain rfl : c = [] := List.length_eq_zero_iff.1 hn
    refine L_body 36 Try.func70 rfl rfl ?_
    refine L_reg [0] (fun K hK => ?_)
    simp
    apply hK; clear hK K
    refine L_reg [0, 9] (fun K hK => ?_)
    simp [hvl]
    apply hK; clear hK K
    refine L_true (by simp) ?_
    refine L_reg [2] (fun K hK => ?_)
    simp
    apply hK; clear hK K
    exact L_ret ⟨.inr rfl, _, rfl, h _ (.refl _)⟩
  | n + 1, [], v, hn, h8, hb, H, hv, Q, h => by simp at hn
  | n + 1, x :: l, v, hn, h8, hb, H, hv, Q, h => by
    have hl : l.length = n := by simpa using hn
    have hvl := ils_len hv
    have hcb := cntb (c := x :: l) (by simp; omega)
    rw [cnt_sum] at h hcb
    have hp2 : 2 ^ l.length ≤ 2 ^ 8 := Nat.pow_le_pow_right (by omega) (by omega)
    refine L_body 36 Try.func70 rfl rfl ?_
    refine L_reg [0] (fun K hK => ?_)
    simp
    apply hK; clear hK K
    refine L_reg [0, 9] (fun K hK => ?_)
    simp [hvl]
    apply hK; clear hK K
    refine L_false (by simp; omega) ?_
    refine L_reg [0, 3] (fun K hK => ?_)
    simp
    apply hK; clear hK K
    refine L_reg [0, 3, 4] (fun K hK => ?_)
    simp
    apply hK; clear hK K
    obtain ⟨N, hN⟩ : ∃ N, 2 ^ l.length = N := ⟨_, rfl⟩
    rw [hN] at h hcb hp2
    refine L_block (L_loopV [3, 4] (fun q vs H' => ∃ (s : Nat), q = N - s ∧ s ≤ N ∧ vs = [.int .i64 (sm s (prt x l) : Nat), .int .i64 s] ∧ Ext H H') _ [.int .i64 (0 : Nat), .int .i64 (0 : Nat)] rfl ⟨0, rfl, Nat.zero_le _, rfl, .refl _⟩ ?_)
    rintro q _ H1 ⟨s, rfl, hs, rfl, hE⟩
    have hv1 := hv.ext hE
    have hvl1 := ils_len hv1
    rw [List.length_cons] at hvl1
    have hsh : IntKind.i64.wrap (2 ^ min l.length IntKind.i64.bits) = (N : Int) := by
      have e : min l.length IntKind.i64.bits = l.length := by show min l.length 64 = l.length; omega
      have e2 : (2 : Int) ^ l.length = (N : Int) := by rw [← hN, Int.natCast_pow]; rfl
      rw [e, e2]
      exact wrap_i64 (by omega)
    have hsm := sm_mono (prt x l) hs
    refine L_reg [0, 3, 4, 15] (fun K hK => ?_)
    simp [hvl1, wrap_i64 (a := (l.length : Int)) (by omega), hsh]
    apply hK; clear hK K
    refine L_dec (s < N) (by simp) (fun hlt => ?_) (fun hge => L_exit ?_)
    · refine L_block ?_
      obtain ⟨r1, p1, v1, x1, y1⟩ := il_ix hv1 (i := 0) (by simp)
      rw [List.getElem_cons_zero] at y1
      have x1' : ∀ k, aIndexAddr Try.prog 22 v (.int k 0) = some (.ptr r1 p1 v1) := fun k => x1 k
      have hsm2 := sm_mono (prt x l) (show s + 1 ≤ N by omega)
      rw [sm] at hsm2
      refine L_regU mixed [false, false, false, false, true] [0, 3, 4, 23] (by kernel_rfl) (fun K hK => ?_)
      simp [okFn_low]
      refine exX_mk (fun Q hQ => size_q l.length s (by omega) (by rw [hN]; exact hlt) _ Q hQ) (.refl _) ?_
      simp [x1', y1]
      apply hK; clear hK K
      refine L_dec (tr (bt l.length s) = x) (by simp [beqN]) (fun ct => ?_) (fun ct => ?_)
      · refine L_reg [0, 3, 4, 5, 6] (fun K hK => ?_)
        simp [okFn_low]
        refine less_ac x l s v (by omega) hb (by rw [hN]; exact hlt) H1 hv1 _ (fun hvd u H2 ho hE2 => ?_) (fun hvd H2 hE2 => ?_)
        · simp
          apply hK; clear hK K
          refine L_reg [0, 3, 4, 5, 30] (fun K hK => ?_)
          simp
          apply hK; clear hK K
          refine L_true rfl ?_
          have htl := tk_len (bt_len l.length s)
          refine L_reg [0, 3, 4] (fun K hK => ?_)
          simp [okFn_low]
          have ih := count_ac n (tk (bt l.length s) l) u (by rw [htl]; exact hl) (by omega) (mem_tk fun y hy => hb y (by simp [hy])) H2 (ownF_ls ho)
          rw [htl] at ih
          refine ih _ (fun H3 hE3 => ?_)
          have hpr : prt x l s = cnt l.length (tk (bt l.length s) l) := by unfold prt; rw [if_pos ⟨ct, hvd⟩]
          rw [← hpr]
          simp [wrap_i64 (a := ((sm s (prt x l) : Nat) : Int) + ((prt x l s : Nat) : Int)) (by omega)]
          apply hK; clear hK K
          refine L_reg [0, 3, 4] (fun K hK => ?_)
          simp [wrap_i64 (a := (s : Int) + 1) (by omega)]
          apply hK; clear hK K
          exact ⟨N - (s + 1), [.int .i64 (sm (s + 1) (prt x l) : Nat), .int .i64 (s + 1 : Nat)], by omega, by simp [sm], s + 1, rfl, by omega, rfl, (hE.trans hE2).trans hE3⟩
        · simp
          apply hK; clear hK K
          refine L_reg [0, 3, 4, 5, 30] (fun K hK => ?_)
          simp
          apply hK; clear hK K
          refine L_false rfl ?_
          have hpr : prt x l s = 0 := by unfold prt; rw [if_neg (fun h => by rw [hvd] at h; cases h.2)]
          refine L_reg [0, 3, 4] (fun K hK => ?_)
          simp [wrap_i64 (a := (s : Int) + 1) (by omega)]
          apply hK; clear hK K
          exact ⟨N - (s + 1), [.int .i64 (sm (s + 1) (prt x l) : Nat), .int .i64 (s + 1 : Nat)], by omega, by simp [sm, hpr], s + 1, rfl, by omega, rfl, hE.trans hE2⟩
      · have hpr : prt x l s = 0 := by unfold prt; rw [if_neg (fun h => ct h.1)]
        refine L_reg [0, 3, 4] (fun K hK => ?_)
        simp [wrap_i64 (a := (s : Int) + 1) (by omega)]
        apply hK; clear hK K
        exact ⟨N - (s + 1), [.int .i64 (sm (s + 1) (prt x l) : Nat), .int .i64 (s + 1 : Nat)], by omega, by simp [sm, hpr], s + 1, rfl, by omega, rfl, hE⟩
    · obtain rfl : s = N := by omega
      refine L_reg [2] (fun K hK => ?_)
      simp
      apply hK; clear hK K
      exact L_ret ⟨.inr rfl, _, rfl, h _ hE⟩
end Go.Proofs.Ytbimapbcpmeooaa.Cl
