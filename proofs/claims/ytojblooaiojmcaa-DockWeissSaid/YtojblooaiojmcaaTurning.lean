/- The law of turned places and of ways. -/
import Derived.Test.YtojblooaiojmcaaWays
namespace Go.Proofs.Ytojblooaiojmcaa
open Go Go.Proofs.Ytojblooaiojmcaa.AX

theorem diffS_pre {n : Nat} : ∀ {l : List Nat} {s : Nat} {pre : List Int}, okD n s l → SameB s pre → ∀ i, i < l.length → ∃ s', SameB s' (pre ++ (l.take i).map Int.ofNat) ∧ okD n s' (l.drop i) ∧ waysL s l = waysL s l
  | [], _, _, _, _, i, hi => by simp at hi
  | b :: l, s, pre, hok, hs, 0, _ => ⟨s, by simpa using hs, hok, rfl⟩
  | b :: l, s, pre, hok, hs, i + 1, hi => by
    obtain ⟨h1, h2, h3⟩ := hok
    obtain ⟨s', g1, g2, -⟩ := diffS_pre h3 (hs.add b) i (by simpa using hi)
    exact ⟨s', by simpa using g1, by simpa using g2, rfl⟩

theorem rWays_ac (n : Int) (v : AV) (l : List Int) (H : AH) (Q : AV → AH → Prop) (hl : l.length ≤ 1048576) (hv : Ls H v l) (h : Q (.tuple [.int .i64 (waysS n l), .int .i64 (waysE n l)]) H) : AC Try.prog 42 [.int .i64 n, v] H Q := by
  have hv0 := hv
  obtain ⟨r, off, ver, sz, full, rfl, hsz, hsub⟩ := hv.sub
  obtain ⟨_, _, _, _, _, e, hv⟩ := id hv
  cases e
  refine L_body 52 Try.func42 rfl rfl ?_
  refine L_reg [0, 1] (fun K hK => ?_)
  simp
  apply hK; clear hK K
  refine L_reg [0, 1, 13] (fun K hK => ?_)
  simp [okFn_low]
  refine in_ac _ _ _ _ _ ?_
  simp
  apply hK; clear hK K
  rcases okBays_cases n with ⟨h0, hn1, hn8⟩ | ⟨h0, hn⟩
  case inr =>
    refine L_true (by simp; omega) ?_
    refine L_reg [4, 5] (fun K hK => ?_)
    simp
    apply hK; clear hK K
    have e : waysE n l = 1 := by rw [waysE, if_pos (by omega)]
    rw [waysS, e, if_pos (by decide)] at h
    exact L_ret ⟨.inr rfl, _, rfl, h⟩
  refine L_false (by simp; omega) ?_
  obtain ⟨m, rfl⟩ := Int.eq_ofNat_of_zero_le (show 0 ≤ n by omega)
  have hm : m ≤ 8 := by omega
  refine L_reg [0, 1, 17] (fun K hK => ?_)
  simp
  apply hK; clear hK K
  by_cases hlen : m < l.length
  case pos =>
    refine L_true (by simp; omega) ?_
    refine L_reg [4, 5] (fun K hK => ?_)
    simp
    apply hK; clear hK K
    have e : waysE m l = 3 := by rw [waysE, if_neg (by omega), if_pos (by omega)]
    rw [waysS, e, if_pos (by decide)] at h
    exact L_ret ⟨.inr rfl, _, rfl, h⟩
  refine L_false (by simp; omega) ?_
  have hE0 : waysE m l = (diffS m 0 l).2 := by rw [waysE, if_neg (by omega), if_neg (by omega)]; rfl
  refine L_reg [0, 1, 6] (fun K hK => ?_)
  simp [okFn_low]
  refine rdifferent_ac m _ l _ _ hm hl hv0 ?_
  simp
  apply hK; clear hK K
  refine L_reg [0, 1, 6, 22] (fun K hK => ?_)
  simp
  apply hK; clear hK K
  by_cases he : (diffS m 0 l).2 = 0
  case neg =>
    refine L_true (by simp [he]) ?_
    refine L_reg [4, 5] (fun K hK => ?_)
    simp
    apply hK; clear hK K
    rw [waysS, hE0, if_pos he] at h
    exact L_ret ⟨.inr rfl, _, rfl, h⟩
  refine L_false (by simp [he]) ?_
  obtain ⟨l', rfl, hok⟩ := diffS_okD m l 0 he
  rw [he] at hE0
  rw [waysS, hE0, if_neg (by decide), natL_of] at h
  simp only [List.length_map] at *
  refine L_reg [0, 1, 7] (fun K hK => ?_)
  simp
  apply hK; clear hK K
  refine L_reg [0, 1, 7, 8] (fun K hK => ?_)
  simp
  apply hK; clear hK K
  refine L_block (L_loopV [7, 8] (fun k vs H' => ∃ (i s a : Nat), k = l'.length - i ∧ i ≤ l'.length ∧ SameB s ((l'.take i).map Int.ofNat) ∧ a ≤ 8 ^ i ∧ okD m s (l'.drop i) ∧ a * waysL s (l'.drop i) = waysL 0 l' ∧ vs = [.int .i64 a, .int .i64 i] ∧ H = H') _ [.int .i64 (1 : Nat), .int .i64 (0 : Nat)] rfl ⟨0, 0, 1, rfl, by omega, .zero, by decide, hok, by simp, rfl, rfl⟩ ?_)
  rintro k _ _ ⟨i, s, a, rfl, hi, hs, ha, hd, hp, rfl, rfl⟩
  refine L_reg [0, 1, 7, 8, 27] (fun K hK => ?_)
  simp
  apply hK; clear hK K
  refine L_dec (i < l'.length) (by simp) (fun hlt => ?_) (fun hge => L_exit ?_)
  · obtain ⟨r', rfl, rfl, hld⟩ := hv i hlt
    simp only [List.getElem_map] at hld
    have hsub' := hsub 0 i (full && i == l'.length) (by omega) (by omega)
    simp only [List.drop_zero, Nat.sub_zero, ← List.map_take] at hsub'
    have htk : (l'.take (i + 1)).map Int.ofNat = (l'.take i).map Int.ofNat ++ [(l'[i] : Int)] := by
      rw [List.take_succ_eq_append_getElem hlt, List.map_append]; rfl
    have htl : ((l'.take i).map Int.ofNat).length ≤ 8 := by simp; omega
    rw [List.drop_eq_getElem_cons hlt] at hd hp
    rw [waysL] at hp
    obtain ⟨hb, hf, hd⟩ := hd
    generalize l'[i] = b at hld hb hf hd hp htk
    generalize (l'.take i).map Int.ofNat = out at hs hsub' htk htl
    have hcount := count_nr hs hb hf
    have hrb := (rowB_spec s b).1
    have ha2 : a * (1 + rowB s b) ≤ 8 ^ (i + 1) := by
      rw [Nat.pow_succ]; exact Nat.mul_le_mul ha (by omega)
    have ha3 := Nat.le_trans ha2 (pow8 (show i + 1 ≤ 8 by omega))
    refine L_block ?_
    refine L_reg [0, 1, 7, 8, 9] (fun K hK => ?_)
    simp
    apply hK; clear hK K
    refine L_reg [0, 1, 7, 8, 9, 10] (fun K hK => ?_)
    simp
    apply hK; clear hK K
    refine L_block (L_loopV [9, 10] (fun k vs H' => ∃ (w c : Nat), k = m - w ∧ w ≤ m ∧ c = (List.range w).countP (fun w => decide (nr out (m - w) w = (b : Int))) ∧ vs = [.int .i64 c, .int .i64 w] ∧ H = H') _ [.int .i64 (0 : Nat), .int .i64 (0 : Nat)] rfl ⟨0, 0, rfl, by omega, rfl, rfl, rfl⟩ ?_)
    rintro k _ _ ⟨w, c, rfl, hw, hc, rfl, rfl⟩
    refine L_reg [0, 1, 7, 8, 9, 10, 32] (fun K hK => ?_)
    simp
    apply hK; clear hK K
    refine L_dec (w < m) (by simp) (fun hwm => ?_) (fun hwm => L_exit ?_)
    · have hc8 : c ≤ w := by rw [hc]; exact Nat.le_trans List.countP_le_length (by simp)
      have hcs : (List.range (w + 1)).countP (fun w => decide (nr out (m - w) w = (b : Int))) = c + if nr out (m - w) w = (b : Int) then 1 else 0 := by
        rw [List.range_succ, List.countP_append, ← hc, List.countP_cons, List.countP_nil]
        simp
      refine L_block ?_
      refine L_regQ mixed [0, 1, 7, 8, 9, 10, 45] (by kernel_rfl) (fun K hK => ?_)
      simp [okFn_low, hlt, hld, slice_hi sl22 _ _ _ _ _ (show i ≤ l'.length by omega)]
      refine exQ_mk (fun Q hQ => rnext_ac m w _ out _ Q hm (by omega) (by simpa using hsub') hQ) ?_
      simp [hlt, hld]
      apply hK; clear hK K
      by_cases hx : nr out (m - w) w = (b : Int)
      · rw [if_pos hx] at hcs
        refine L_true (by simp [hx]) ?_
        refine L_reg [0, 1, 7, 8, 9, 10] (fun K hK => ?_)
        simp [wrap_i64 (a := (c : Int) + 1) (by omega)]
        apply hK; clear hK K
        refine L_reg [0, 1, 7, 8, 9, 10] (fun K hK => ?_)
        simp [wrap_i64 (a := (w : Int) + 1) (by omega)]
        apply hK; clear hK K
        exact ⟨m - (w + 1), [.int .i64 (c + 1 : Nat), .int .i64 (w + 1 : Nat)], by omega, by simp, w + 1, c + 1, rfl, by omega, hcs.symm, rfl, rfl⟩
      · rw [if_neg hx] at hcs
        refine L_false (by simp [hx]) ?_
        refine L_reg [0, 1, 7, 8, 9, 10] (fun K hK => ?_)
        simp [wrap_i64 (a := (w : Int) + 1) (by omega)]
        apply hK; clear hK K
        exact ⟨m - (w + 1), [.int .i64 (c : Nat), .int .i64 (w + 1 : Nat)], by omega, by simp, w + 1, c, rfl, by omega, hcs.symm, rfl, rfl⟩
    · have : w = m := by omega
      subst this
      rw [hcount] at hc
      subst hc
      refine L_reg [0, 1, 7, 8] (fun K hK => ?_)
      have hmul : (a : Int) * ((1 + rowB s b : Nat) : Int) = ((a * (1 + rowB s b) : Nat) : Int) := by simp
      simp [hmul, wrap_i64 (a := ((a * (1 + rowB s b) : Nat) : Int)) (by omega), -Int.natCast_mul, -Int.natCast_add]
      apply hK; clear hK K
      refine L_reg [0, 1, 7, 8] (fun K hK => ?_)
      simp [wrap_i64 (a := (i : Int) + 1) (by omega), -Int.natCast_mul, -Int.natCast_add]
      apply hK; clear hK K
      exact ⟨l'.length - (i + 1), [.int .i64 (a * (1 + rowB s b) : Nat), .int .i64 (i + 1 : Nat)], by omega, by simp [-Int.natCast_mul], i + 1, s ||| 2 ^ b, a * (1 + rowB s b), rfl, by omega, by rw [htk]; exact hs.add b, ha2, hd, by rw [Nat.mul_assoc]; exact hp, rfl, rfl⟩
  · refine L_reg [4, 5] (fun K hK => ?_)
    simp
    apply hK; clear hK K
    rw [List.drop_eq_nil_of_le (by omega), waysL, Nat.mul_one] at hp
    rw [← hp] at h
    exact L_ret ⟨.inr rfl, _, rfl, h⟩

theorem turnsS_len (n : Int) (l : List Int) : (turnsS n l).length ≤ 1048576 := by
  unfold turnsS
  split
  · simp
  · rename_i h
    have : turnsE n l = 0 := by omega
    have hn : n ≤ 8 := by
      unfold turnsE at this
      split at this
      · cases this
      · rename_i h2
        rcases okBays_cases n with ⟨-, -, h3⟩ | ⟨h3, -⟩ <;> omega
    have := turnsL_len n.toNat (natL l) (n.toNat + 1)
    omega

set_option maxRecDepth 100000 in
theorem dockTurns_ac (n : Int) (v : AV) (l : List Int) (H : AH) (hv : Ls H v l) : AC Try.prog 6 [.int .i64 n, v] H fun u _ => u = .bool true := by
  obtain ⟨r, off, ver, sz, full, rfl, -⟩ := id hv
  refine L_body 62 Try.func6 rfl rfl ?_
  refine L_reg [0, 1] (fun K hK => ?_)
  simp
  apply hK; clear hK K
  refine L_reg [0, 1, 15] (fun K hK => ?_)
  simp
  apply hK; clear hK K
  by_cases hl : 60 < l.length
  case pos =>
    refine L_true (by simp; omega) ?_
    refine L_reg [4] (fun K hK => ?_)
    simp [okFn_low]
    refine works_ac _ _ ?_
    simp
    apply hK; clear hK K
    exact L_ret ⟨.inr rfl, _, rfl, rfl⟩
  refine L_false (by simp; omega) ?_
  have hlt := turnsS_len n l
  refine L_reg [0, 1, 5, 6] (fun K hK => ?_)
  simp [okFn_low]
  refine Turns_ac n _ l _ _ (by omega) hv (fun v1 H1 hv1 hE1 => ?_)
  simp
  apply hK; clear hK K
  have hvA := hv.ext hE1
  refine L_reg [0, 1, 5, 6, 7, 8] (fun K hK => ?_)
  simp [okFn_low]
  refine rTurns_ac n _ l _ _ (by omega) hvA (fun v2 H2 hv2 hE2 => ?_)
  simp
  apply hK; clear hK K
  have hvB := hvA.ext hE2
  have hs1 := hv1.ext hE2
  refine L_reg [0, 1, 5, 6, 7, 8, 9, 10] (fun K hK => ?_)
  simp [okFn_low]
  refine Ways_ac n _ l _ _ (by omega) hvB ?_
  simp
  apply hK; clear hK K
  refine L_reg [5, 6, 7, 8, 9, 10, 11, 12] (fun K hK => ?_)
  simp [okFn_low]
  refine rWays_ac n _ l _ _ (by omega) hvB ?_
  simp
  apply hK; clear hK K
  generalize waysS n l = x1
  generalize waysE n l = x2
  refine L_reg [4] (fun K hK => ?_)
  simp [okFn_low]
  refine same_ac _ _ (turnsS n l) (turnsS n l) _ _ hlt hs1 hv2 ?_
  simp [okFn_low, pickV]
  refine works_ac _ _ ?_
  simp [pickV]
  apply hK; clear hK K
  exact L_ret ⟨.inr rfl, _, rfl, by simp⟩
end Go.Proofs.Ytojblooaiojmcaa
