/- Dock and its reference: Next, Way, Lucky. -/
import Derived.Test.YtojblooaiojmcaaParks
namespace Go.Proofs.Ytojblooaiojmcaa
open Go Go.Proofs.Ytojblooaiojmcaa.AX

theorem parkS_bd (n : Nat) : ∀ (l : List Nat) (s : Nat), ∀ b ∈ parkS n s l, -1 ≤ b ∧ b < n
  | [], _, b, h => by simp [parkS] at h
  | w :: l, s, b, h => by
    rw [parkS] at h
    rcases List.mem_cons.1 h with rfl | h
    · split <;> omega
    · exact parkS_bd n l _ b h
def wayL : List Int → List Nat → Int
  | b :: bs, w :: ws => (if b = -1 then 0 else b - w) + wayL bs ws
  | _, _ => 0
def luckL : List Int → List Nat → Int
  | b :: bs, w :: ws => (if b = w then 1 else 0) + luckL bs ws
  | _, _ => 0
def wayS (n : Int) (l : List Int) : Int := if checkS n l ≠ 0 then 0 else wayL (parkS n.toNat 0 (natL l)) (natL l)
def luckS (n : Int) (l : List Int) : Int := if checkS n l ≠ 0 then 0 else luckL (parkS n.toNat 0 (natL l)) (natL l)
theorem wayS_ok {m : Nat} {l : List Nat} (h : checkS m (l.map Int.ofNat) = 0) : wayS m (l.map Int.ofNat) = wayL (parkS m 0 l) l := by
  rw [wayS, if_neg (by simp only [h, ne_eq, not_true_eq_false, not_false_eq_true]), natL_of]; rfl
theorem luckS_ok {m : Nat} {l : List Nat} (h : checkS m (l.map Int.ofNat) = 0) : luckS m (l.map Int.ofNat) = luckL (parkS m 0 l) l := by
  rw [luckS, if_neg (by simp only [h, ne_eq, not_true_eq_false, not_false_eq_true]), natL_of]; rfl
theorem neqB4 (t a b : Bool) : binV Try.prog .neq 4 t (.bool a) (.bool b) = some (.bool (!(a == b))) := by kernel_rfl
theorem eqlB4 (t a b : Bool) : binV Try.prog .eql 4 t (.bool a) (.bool b) = some (.bool (a == b)) := by kernel_rfl

theorem Way_ac (n : Int) (v : AV) (l : List Int) (H : AH) (Q : AV → AH → Prop) (hl : l.length ≤ 1048576) (hv : Ls H v l) (h : ∀ H', Ext H H' → Q (.tuple [.int .i64 (wayS n l), .int .i64 (checkS n l)]) H') : AC Try.prog 23 [.int .i64 n, v] H Q := by
  refine L_body 37 Try.func23 rfl rfl ?_
  refine L_reg [0, 1] (fun K hK => ?_)
  simp
  apply hK; clear hK K
  refine L_reg [0, 1, 6] (fun K hK => ?_)
  simp [okFn_low]
  refine Check_ac _ _ l _ _ hl hv ?_
  simp
  apply hK; clear hK K
  refine L_reg [0, 1, 6, 14] (fun K hK => ?_)
  simp
  apply hK; clear hK K
  by_cases h0 : checkS n l = 0
  case neg =>
    refine L_true (by simp [h0]) ?_
    refine L_reg [4, 5] (fun K hK => ?_)
    simp
    apply hK; clear hK K
    rw [wayS, if_pos h0] at h
    exact L_ret ⟨.inr rfl, _, rfl, h _ (.refl _)⟩
  refine L_false (by simp [h0]) ?_
  obtain ⟨m, l', rfl, hm1, hm8, rfl, hlen, hw⟩ := checked h0
  rw [wayS_ok h0, h0] at h
  have hv0 := hv
  obtain ⟨r, off, ver, sz, full, rfl, hv⟩ := hv
  simp only [List.length_map] at hv hv0 ⊢
  refine L_reg [0, 1, 7] (fun K hK => ?_)
  simp
  apply hK; clear hK K
  refine L_reg [1, 7, 18, 19, 20] (fun K hK => ?_)
  simp [okFn_low]
  refine park_ac m _ l' _ _ hm8 (by omega) (by simpa using hv0) (fun v' H1 hv' hE => ?_)
  have hbd := parkS_bd m l' 0
  have hbl := parkS_length m l' 0
  obtain ⟨r2, off2, ver2, sz2, full2, rfl, hv'⟩ := hv'
  generalize parkS m 0 l' = bs at *
  simp
  apply hK; clear hK K
  refine L_block (L_loopV [7, 20] (fun k vs H' => ∃ (i : Nat) (a : Int), k = l'.length - i ∧ i ≤ l'.length ∧ -16 * (i : Int) ≤ a ∧ a ≤ 16 * i ∧ a + wayL (bs.drop i) (l'.drop i) = wayL bs l' ∧ vs = [.int .i64 a, .int .i64 i] ∧ H' = H1) _ [.int .i64 (0 : Int), .int .i64 (0 : Nat)] rfl ⟨0, 0, rfl, by omega, by omega, by omega, by simp, rfl, rfl⟩ ?_)
  rintro k _ _ ⟨i, a, rfl, hi, ha1, ha2, hs, rfl, rfl⟩
  refine L_reg [1, 7, 18, 19, 20, 21] (fun K hK => ?_)
  simp
  apply hK; clear hK K
  refine L_dec (i < l'.length) (by simp [hbl]) (fun hlt => ?_) (fun hge => L_exit ?_)
  · obtain ⟨r', rfl, rfl, hld⟩ := hv i hlt
    obtain ⟨r3, rfl, rfl, hld2⟩ := hv' i (by omega)
    have hld' := hE.ld hld
    simp only [List.getElem_map] at hld'
    rw [List.drop_eq_getElem_cons hlt, List.drop_eq_getElem_cons (by omega : i < bs.length), wayL] at hs
    have hb := hbd bs[i] (List.getElem_mem (by omega))
    have hwi := hw l'[i] (List.getElem_mem hlt)
    generalize bs[i] = b at hb hs hld2
    generalize l'[i] = w at hwi hs hld'
    refine L_block ?_
    refine L_reg [1, 7, 8, 9, 18, 19, 20] (fun K hK => ?_)
    simp [hlt, hbl, hld2]
    apply hK; clear hK K
    refine L_reg [1, 7, 8, 9, 18, 19, 20, 26] (fun K hK => ?_)
    simp
    apply hK; clear hK K
    by_cases hb1 : b = -1
    · refine L_false (by simp [hb1]) ?_
      rw [if_pos hb1] at hs
      refine L_reg [1, 7, 18, 19, 20] (fun K hK => ?_)
      simp [wrap_i64 (a := (i : Int) + 1) (by omega)]
      apply hK; clear hK K
      exact ⟨l'.length - (i + 1), [.int .i64 a, .int .i64 (i + 1 : Nat)], by omega, by simp [hbl], i + 1, a, rfl, by omega, by omega, by omega, by omega, rfl, rfl⟩
    · refine L_true (by simp [hb1]) ?_
      rw [if_neg hb1] at hs
      refine L_reg [1, 7, 18, 19, 20] (fun K hK => ?_)
      simp [hlt, hld', wrap_i64 (a := b - (w : Int)) (by omega), wrap_i64 (a := a + (b - (w : Int))) (by omega)]
      apply hK; clear hK K
      refine L_reg [1, 7, 18, 19, 20] (fun K hK => ?_)
      simp [wrap_i64 (a := (i : Int) + 1) (by omega)]
      apply hK; clear hK K
      exact ⟨l'.length - (i + 1), [.int .i64 (a + (b - w)), .int .i64 (i + 1 : Nat)], by omega, by simp [hbl], i + 1, a + (b - w), rfl, by omega, by omega, by omega, by omega, rfl, rfl⟩
  · refine L_reg [4, 5] (fun K hK => ?_)
    simp
    apply hK; clear hK K
    rw [List.drop_eq_nil_of_le (by omega), List.drop_eq_nil_of_le (by omega)] at hs
    have : a = wayL bs l' := by simpa [wayL] using hs
    subst this
    exact L_ret ⟨.inr rfl, _, rfl, h _ hE⟩

theorem Lucky_ac (n : Int) (v : AV) (l : List Int) (H : AH) (Q : AV → AH → Prop) (hl : l.length ≤ 1048576) (hv : Ls H v l) (h : ∀ H', Ext H H' → Q (.tuple [.int .i64 (luckS n l), .int .i64 (checkS n l)]) H') : AC Try.prog 25 [.int .i64 n, v] H Q := by
  refine L_body 35 Try.func25 rfl rfl ?_
  refine L_reg [0, 1] (fun K hK => ?_)
  simp
  apply hK; clear hK K
  refine L_reg [0, 1, 6] (fun K hK => ?_)
  simp [okFn_low]
  refine Check_ac _ _ l _ _ hl hv ?_
  simp
  apply hK; clear hK K
  refine L_reg [0, 1, 6, 14] (fun K hK => ?_)
  simp
  apply hK; clear hK K
  by_cases h0 : checkS n l = 0
  case neg =>
    refine L_true (by simp [h0]) ?_
    refine L_reg [4, 5] (fun K hK => ?_)
    simp
    apply hK; clear hK K
    rw [luckS, if_pos h0] at h
    exact L_ret ⟨.inr rfl, _, rfl, h _ (.refl _)⟩
  refine L_false (by simp [h0]) ?_
  obtain ⟨m, l', rfl, hm1, hm8, rfl, hlen, hw⟩ := checked h0
  rw [luckS_ok h0, h0] at h
  have hv0 := hv
  obtain ⟨r, off, ver, sz, full, rfl, hv⟩ := hv
  simp only [List.length_map] at hv hv0 ⊢
  refine L_reg [0, 1, 7] (fun K hK => ?_)
  simp
  apply hK; clear hK K
  refine L_reg [1, 7, 18, 19, 20] (fun K hK => ?_)
  simp [okFn_low]
  refine park_ac m _ l' _ _ hm8 (by omega) (by simpa using hv0) (fun v' H1 hv' hE => ?_)
  have hbd := parkS_bd m l' 0
  have hbl := parkS_length m l' 0
  obtain ⟨r2, off2, ver2, sz2, full2, rfl, hv'⟩ := hv'
  generalize parkS m 0 l' = bs at *
  simp
  apply hK; clear hK K
  refine L_block (L_loopV [7, 20] (fun k vs H' => ∃ (i : Nat) (a : Int), k = l'.length - i ∧ i ≤ l'.length ∧ -16 * (i : Int) ≤ a ∧ a ≤ 16 * i ∧ a + luckL (bs.drop i) (l'.drop i) = luckL bs l' ∧ vs = [.int .i64 a, .int .i64 i] ∧ H' = H1) _ [.int .i64 (0 : Int), .int .i64 (0 : Nat)] rfl ⟨0, 0, rfl, by omega, by omega, by omega, by simp, rfl, rfl⟩ ?_)
  rintro k _ _ ⟨i, a, rfl, hi, ha1, ha2, hs, rfl, rfl⟩
  refine L_reg [1, 7, 18, 19, 20, 21] (fun K hK => ?_)
  simp
  apply hK; clear hK K
  refine L_dec (i < l'.length) (by simp [hbl]) (fun hlt => ?_) (fun hge => L_exit ?_)
  · obtain ⟨r', rfl, rfl, hld⟩ := hv i hlt
    obtain ⟨r3, rfl, rfl, hld2⟩ := hv' i (by omega)
    have hld' := hE.ld hld
    simp only [List.getElem_map] at hld'
    rw [List.drop_eq_getElem_cons hlt, List.drop_eq_getElem_cons (by omega : i < bs.length), luckL] at hs
    have hb := hbd bs[i] (List.getElem_mem (by omega))
    have hwi := hw l'[i] (List.getElem_mem hlt)
    generalize bs[i] = b at hb hs hld2
    generalize l'[i] = w at hwi hs hld'
    refine L_block ?_
    refine L_reg [1, 7, 8, 9, 18, 19, 20] (fun K hK => ?_)
    simp [hlt, hbl, hld2]
    apply hK; clear hK K
    refine L_reg [1, 7, 18, 19, 20, 30] (fun K hK => ?_)
    simp [hlt, hld']
    apply hK; clear hK K
    by_cases hb1 : b = w
    · refine L_true (by simp [hb1]) ?_
      rw [if_pos hb1] at hs
      refine L_reg [1, 7, 18, 19, 20] (fun K hK => ?_)
      simp [wrap_i64 (a := a + 1) (by omega)]
      apply hK; clear hK K
      refine L_reg [1, 7, 18, 19, 20] (fun K hK => ?_)
      simp [wrap_i64 (a := (i : Int) + 1) (by omega)]
      apply hK; clear hK K
      exact ⟨l'.length - (i + 1), [.int .i64 (a + 1), .int .i64 (i + 1 : Nat)], by omega, by simp [hbl], i + 1, a + 1, rfl, by omega, by omega, by omega, by omega, rfl, rfl⟩
    · refine L_false (by simp [hb1]) ?_
      rw [if_neg hb1] at hs
      refine L_reg [1, 7, 18, 19, 20] (fun K hK => ?_)
      simp [wrap_i64 (a := (i : Int) + 1) (by omega)]
      apply hK; clear hK K
      exact ⟨l'.length - (i + 1), [.int .i64 a, .int .i64 (i + 1 : Nat)], by omega, by simp [hbl], i + 1, a, rfl, by omega, by omega, by omega, by omega, rfl, rfl⟩
  · refine L_reg [4, 5] (fun K hK => ?_)
    simp
    apply hK; clear hK K
    rw [List.drop_eq_nil_of_le (by omega), List.drop_eq_nil_of_le (by omega)] at hs
    have : a = luckL bs l' := by simpa [luckL] using hs
    subst this
    exact L_ret ⟨.inr rfl, _, rfl, h _ hE⟩

theorem rWay_ac (n : Int) (v : AV) (l : List Int) (H : AH) (Q : AV → AH → Prop) (hl : l.length ≤ 1048576) (hv : Ls H v l) (h : ∀ H', Ext H H' → Q (.tuple [.int .i64 (wayS n l), .int .i64 (checkS n l)]) H') : AC Try.prog 24 [.int .i64 n, v] H Q := by
  refine L_body 42 Try.func24 rfl rfl ?_
  refine L_reg [0, 1] (fun K hK => ?_)
  simp
  apply hK; clear hK K
  refine L_reg [0, 1, 6] (fun K hK => ?_)
  simp [okFn_low]
  refine refCheck_ac _ _ l _ _ hl hv ?_
  simp
  apply hK; clear hK K
  refine L_reg [0, 1, 6, 14] (fun K hK => ?_)
  simp
  apply hK; clear hK K
  by_cases h0 : checkS n l = 0
  case neg =>
    refine L_true (by simp [h0]) ?_
    refine L_reg [4, 5] (fun K hK => ?_)
    simp
    apply hK; clear hK K
    rw [wayS, if_pos h0] at h
    exact L_ret ⟨.inr rfl, _, rfl, h _ (.refl _)⟩
  refine L_false (by simp [h0]) ?_
  obtain ⟨m, l', rfl, hm1, hm8, rfl, hlen, hw⟩ := checked h0
  rw [wayS_ok h0, h0] at h
  have hv0 := hv
  obtain ⟨r, off, ver, sz, full, rfl, hv⟩ := hv
  simp only [List.length_map] at hv hv0 ⊢
  refine L_reg [0, 1, 7] (fun K hK => ?_)
  simp
  apply hK; clear hK K
  refine L_reg [1, 7, 8] (fun K hK => ?_)
  simp [okFn_low]
  refine rpark_ac m _ l' _ _ hm8 (by omega) hw (by simpa using hv0) (fun v' H1 hv' hE => ?_)
  have hbd := parkS_bd m l' 0
  have hbl := parkS_length m l' 0
  obtain ⟨r2, off2, ver2, sz2, full2, rfl, hv'⟩ := hv'
  generalize parkS m 0 l' = bs at *
  simp
  apply hK; clear hK K
  refine L_reg [1, 7, 8, 9] (fun K hK => ?_)
  simp
  apply hK; clear hK K
  refine L_block (L_loopV [7, 9] (fun k vs H' => ∃ (i : Nat) (a : Int), k = l'.length - i ∧ i ≤ l'.length ∧ -16 * (i : Int) ≤ a ∧ a ≤ 16 * i ∧ a + wayL (bs.drop i) (l'.drop i) = wayL bs l' ∧ vs = [.int .i64 a, .int .i64 i] ∧ H' = H1) _ [.int .i64 (0 : Int), .int .i64 (0 : Nat)] rfl ⟨0, 0, rfl, by omega, by omega, by omega, by simp, rfl, rfl⟩ ?_)
  rintro k _ _ ⟨i, a, rfl, hi, ha1, ha2, hs, rfl, rfl⟩
  refine L_reg [1, 7, 8, 9, 22] (fun K hK => ?_)
  simp
  apply hK; clear hK K
  refine L_dec (i < l'.length) (by simp [hbl]) (fun hlt => ?_) (fun hge => L_exit ?_)
  · obtain ⟨r', rfl, rfl, hld⟩ := hv i hlt
    obtain ⟨r3, rfl, rfl, hld2⟩ := hv' i (by omega)
    have hld' := hE.ld hld
    simp only [List.getElem_map] at hld'
    rw [List.drop_eq_getElem_cons hlt, List.drop_eq_getElem_cons (by omega : i < bs.length), wayL] at hs
    have hb := hbd bs[i] (List.getElem_mem (by omega))
    have hwi := hw l'[i] (List.getElem_mem hlt)
    generalize bs[i] = b at hb hs hld2
    generalize l'[i] = w at hwi hs hld'
    refine L_block ?_
    refine L_reg [1, 7, 8, 9, 29] (fun K hK => ?_)
    simp [hlt, hbl, hld2]
    apply hK; clear hK K
    by_cases hb1 : b = -1
    · refine L_false (by simp; omega) ?_
      rw [if_pos hb1] at hs
      refine L_reg [1, 7, 8, 9] (fun K hK => ?_)
      simp [wrap_i64 (a := (i : Int) + 1) (by omega)]
      apply hK; clear hK K
      exact ⟨l'.length - (i + 1), [.int .i64 a, .int .i64 (i + 1 : Nat)], by omega, by simp [hbl], i + 1, a, rfl, by omega, by omega, by omega, by omega, rfl, rfl⟩
    · refine L_true (by simp; omega) ?_
      rw [if_neg hb1] at hs
      refine L_regT mixed [1, 7, 8, 9] (by kernel_rfl) (fun K hK => ?_)
      simp [hlt, hbl, hld', hld2, wrap_i64 (a := b - (w : Int)) (by omega), wrap_i64 (a := a + (b - (w : Int))) (by omega)]
      apply hK; clear hK K
      refine L_reg [1, 7, 8, 9] (fun K hK => ?_)
      simp [wrap_i64 (a := (i : Int) + 1) (by omega)]
      apply hK; clear hK K
      exact ⟨l'.length - (i + 1), [.int .i64 (a + (b - w)), .int .i64 (i + 1 : Nat)], by omega, by simp [hbl], i + 1, a + (b - w), rfl, by omega, by omega, by omega, by omega, rfl, rfl⟩
  · refine L_reg [4, 5] (fun K hK => ?_)
    simp
    apply hK; clear hK K
    rw [List.drop_eq_nil_of_le (by omega), List.drop_eq_nil_of_le (by omega)] at hs
    have : a = wayL bs l' := by simpa [wayL] using hs
    subst this
    exact L_ret ⟨.inr rfl, _, rfl, h _ hE⟩

theorem rLucky_ac (n : Int) (v : AV) (l : List Int) (H : AH) (Q : AV → AH → Prop) (hl : l.length ≤ 1048576) (hv : Ls H v l) (h : ∀ H', Ext H H' → Q (.tuple [.int .i64 (luckS n l), .int .i64 (checkS n l)]) H') : AC Try.prog 26 [.int .i64 n, v] H Q := by
  refine L_body 37 Try.func26 rfl rfl ?_
  refine L_reg [0, 1] (fun K hK => ?_)
  simp
  apply hK; clear hK K
  refine L_reg [0, 1, 6] (fun K hK => ?_)
  simp [okFn_low]
  refine refCheck_ac _ _ l _ _ hl hv ?_
  simp
  apply hK; clear hK K
  refine L_reg [0, 1, 6, 14] (fun K hK => ?_)
  simp
  apply hK; clear hK K
  by_cases h0 : checkS n l = 0
  case neg =>
    refine L_true (by simp [h0]) ?_
    refine L_reg [4, 5] (fun K hK => ?_)
    simp
    apply hK; clear hK K
    rw [luckS, if_pos h0] at h
    exact L_ret ⟨.inr rfl, _, rfl, h _ (.refl _)⟩
  refine L_false (by simp [h0]) ?_
  obtain ⟨m, l', rfl, hm1, hm8, rfl, hlen, hw⟩ := checked h0
  rw [luckS_ok h0, h0] at h
  have hv0 := hv
  obtain ⟨r, off, ver, sz, full, rfl, hv⟩ := hv
  simp only [List.length_map] at hv hv0 ⊢
  refine L_reg [0, 1, 7] (fun K hK => ?_)
  simp
  apply hK; clear hK K
  refine L_reg [1, 7, 8] (fun K hK => ?_)
  simp [okFn_low]
  refine rpark_ac m _ l' _ _ hm8 (by omega) hw (by simpa using hv0) (fun v' H1 hv' hE => ?_)
  have hbd := parkS_bd m l' 0
  have hbl := parkS_length m l' 0
  obtain ⟨r2, off2, ver2, sz2, full2, rfl, hv'⟩ := hv'
  generalize parkS m 0 l' = bs at *
  simp
  apply hK; clear hK K
  refine L_reg [1, 7, 8, 9] (fun K hK => ?_)
  simp
  apply hK; clear hK K
  refine L_block (L_loopV [7, 9] (fun k vs H' => ∃ (i : Nat) (a : Int), k = l'.length - i ∧ i ≤ l'.length ∧ -16 * (i : Int) ≤ a ∧ a ≤ 16 * i ∧ a + luckL (bs.drop i) (l'.drop i) = luckL bs l' ∧ vs = [.int .i64 a, .int .i64 i] ∧ H' = H1) _ [.int .i64 (0 : Int), .int .i64 (0 : Nat)] rfl ⟨0, 0, rfl, by omega, by omega, by omega, by simp, rfl, rfl⟩ ?_)
  rintro k _ _ ⟨i, a, rfl, hi, ha1, ha2, hs, rfl, rfl⟩
  refine L_reg [1, 7, 8, 9, 22] (fun K hK => ?_)
  simp
  apply hK; clear hK K
  refine L_dec (i < l'.length) (by simp [hbl]) (fun hlt => ?_) (fun hge => L_exit ?_)
  · obtain ⟨r', rfl, rfl, hld⟩ := hv i hlt
    obtain ⟨r3, rfl, rfl, hld2⟩ := hv' i (by omega)
    have hld' := hE.ld hld
    simp only [List.getElem_map] at hld'
    rw [List.drop_eq_getElem_cons hlt, List.drop_eq_getElem_cons (by omega : i < bs.length), luckL] at hs
    have hb := hbd bs[i] (List.getElem_mem (by omega))
    have hwi := hw l'[i] (List.getElem_mem hlt)
    generalize bs[i] = b at hb hs hld2
    generalize l'[i] = w at hwi hs hld'
    refine L_block ?_
    refine L_regT mixed [1, 7, 8, 9, 33] (by kernel_rfl) (fun K hK => ?_)
    simp [hlt, hbl, hld', hld2]
    apply hK; clear hK K
    by_cases hb1 : b = w
    · refine L_true (by simp [hb1]) ?_
      rw [if_pos hb1] at hs
      refine L_reg [1, 7, 8, 9] (fun K hK => ?_)
      simp [wrap_i64 (a := a + 1) (by omega)]
      apply hK; clear hK K
      refine L_reg [1, 7, 8, 9] (fun K hK => ?_)
      simp [wrap_i64 (a := (i : Int) + 1) (by omega)]
      apply hK; clear hK K
      exact ⟨l'.length - (i + 1), [.int .i64 (a + 1), .int .i64 (i + 1 : Nat)], by omega, by simp [hbl], i + 1, a + 1, rfl, by omega, by omega, by omega, by omega, rfl, rfl⟩
    · refine L_false (by simp [hb1]) ?_
      rw [if_neg hb1] at hs
      refine L_reg [1, 7, 8, 9] (fun K hK => ?_)
      simp [wrap_i64 (a := (i : Int) + 1) (by omega)]
      apply hK; clear hK K
      exact ⟨l'.length - (i + 1), [.int .i64 a, .int .i64 (i + 1 : Nat)], by omega, by simp [hbl], i + 1, a, rfl, by omega, by omega, by omega, by omega, rfl, rfl⟩
  · refine L_reg [4, 5] (fun K hK => ?_)
    simp
    apply hK; clear hK K
    rw [List.drop_eq_nil_of_le (by omega), List.drop_eq_nil_of_le (by omega)] at hs
    have : a = luckL bs l' := by simpa [luckL] using hs
    subst this
    exact L_ret ⟨.inr rfl, _, rfl, h _ hE⟩

theorem same_ac (u v : AV) (l m : List Int) (H : AH) (Q : AV → AH → Prop) (hl : l.length ≤ 1048576) (hu : Ls H u l) (hv : Ls H v m) (h : Q (.bool (decide (l = m))) H) : AC Try.prog 22 [u, v] H Q := by
  obtain ⟨r, off, ver, sz, full, rfl, hu⟩ := hu
  obtain ⟨r2, off2, ver2, sz2, full2, rfl, hv⟩ := hv
  refine L_body 26 Try.func22 rfl rfl ?_
  refine L_reg [0, 1] (fun K hK => ?_)
  simp
  apply hK; clear hK K
  refine L_reg [0, 1, 10] (fun K hK => ?_)
  simp
  apply hK; clear hK K
  by_cases hlen : l.length = m.length
  case neg =>
    refine L_true (by simp [hlen]; omega) ?_
    refine L_reg [4] (fun K hK => ?_)
    simp
    apply hK; clear hK K
    have : l ≠ m := fun e => hlen (by rw [e])
    rw [decide_eq_false this] at h
    exact L_ret ⟨.inr rfl, _, rfl, h⟩
  refine L_false (by simp [hlen]) ?_
  refine L_reg [0, 1, 5] (fun K hK => ?_)
  simp
  apply hK; clear hK K
  refine L_block (L_loopV [5] (fun k vs H' => ∃ (i : Nat), k = l.length - i ∧ i ≤ l.length ∧ (l.drop i = m.drop i → l = m) ∧ vs = [.int .i64 i] ∧ H' = H) _ [.int .i64 (0 : Nat)] rfl ⟨0, rfl, by omega, by simp, rfl, rfl⟩ ?_)
  rintro k _ _ ⟨i, rfl, hi, hs, rfl, rfl⟩
  refine L_reg [0, 1, 5, 14] (fun K hK => ?_)
  simp
  apply hK; clear hK K
  refine L_dec (i < l.length) (by simp) (fun hlt => ?_) (fun hge => L_exit ?_)
  · obtain ⟨r', rfl, rfl, hld⟩ := hu i hlt
    obtain ⟨r3, rfl, rfl, hld2⟩ := hv i (by omega)
    rw [List.drop_eq_getElem_cons hlt, List.drop_eq_getElem_cons (by omega : i < m.length)] at hs
    refine L_block ?_
    refine L_regT mixed [0, 1, 5, 25] (by kernel_rfl) (fun K hK => ?_)
    simp [hlt, ← hlen, hld, hld2]
    apply hK; clear hK K
    by_cases he : l[i] = m[i]
    · refine L_false (by simp [he]) ?_
      rw [he] at hs
      refine L_reg [0, 1, 5] (fun K hK => ?_)
      simp [wrap_i64 (a := (i : Int) + 1) (by omega)]
      apply hK; clear hK K
      exact ⟨l.length - (i + 1), [.int .i64 (i + 1 : Nat)], by omega, by simp [hlen], i + 1, rfl, by omega, fun e => hs (by rw [e]), rfl, rfl⟩
    · refine L_true (by simp [he]) ?_
      refine L_reg [4] (fun K hK => ?_)
      simp
      apply hK; clear hK K
      have : l ≠ m := fun e => he (by subst e; rfl)
      rw [decide_eq_false this] at h
      exact L_ret ⟨.inr rfl, _, rfl, h⟩
  · refine L_reg [4] (fun K hK => ?_)
    simp
    apply hK; clear hK K
    have : l = m := hs (by rw [List.drop_eq_nil_of_le (by omega), List.drop_eq_nil_of_le (by omega)])
    rw [decide_eq_true this] at h
    exact L_ret ⟨.inr rfl, _, rfl, h⟩
end Go.Proofs.Ytojblooaiojmcaa
