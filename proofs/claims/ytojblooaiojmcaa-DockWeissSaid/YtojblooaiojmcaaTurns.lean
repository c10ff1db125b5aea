/- Dock and its reference: places are turned, and ways counted. -/
import Derived.Test.YtojblooaiojmcaaParking
namespace Go.Proofs.Ytojblooaiojmcaa
open Go Go.Proofs.Ytojblooaiojmcaa.AX

/-! ### Turned places -/
def turnL (n by_ : Nat) (l : List Nat) : List Nat := l.map fun p => (p + by_) % (n + 1)
theorem turnL_length (n k : Nat) (l : List Nat) : (turnL n k l).length = l.length := by simp [turnL]
theorem rem_nat (a b : Nat) : ((a : Int)).tmod (b : Int) = ((a % b : Nat) : Int) := by
  rw [Int.tmod_eq_emod_of_nonneg (Int.natCast_nonneg _)]; simp

theorem turned_ac (n k : Nat) (v : AV) (l : List Nat) (H : AH) (Q : AV → AH → Prop) (hn : n ≤ 8) (hk : k ≤ 8) (hl : l.length ≤ 8) (hle : ∀ p ∈ l, p ≤ n) (hv : Ls H v (l.map Int.ofNat)) (h : ∀ v' H', Ls H' v' ((turnL n k l).map Int.ofNat) → Ext H H' → Q v' H') :
    AC Try.prog 75 [.int .i64 n, v, .int .i64 k] H Q := by
  obtain ⟨r, off, ver, sz, full, rfl, hv⟩ := hv
  simp only [List.length_map] at hv ⊢
  refine L_body 31 Try.func75 rfl rfl ?_
  refine L_reg [0, 1, 2] (fun K hK => ?_)
  simp
  apply hK; clear hK K
  refine L_reg [0, 1, 2, 7] (fun K hK => ?_)
  simp [make_z elz22 (show l.length ≤ 16777216 by omega)]
  apply hK; clear hK K
  refine L_reg [0, 2, 7, 13, 14, 15] (fun K hK => ?_)
  simp
  apply hK; clear hK K
  refine L_block (L_loopV [15] (fun m vs H' => ∃ (i : Nat), m = l.length - i ∧ i ≤ l.length ∧ vs = [.int .i64 i] ∧
    Ext H H' ∧ H'[H.length]? = some (.row (((turnL n k (l.take i)).map Int.ofNat ++ List.replicate (l.length - i) 0).map (.int .i64)) 0 0 false)) _ [.int .i64 (0 : Nat)] rfl ⟨0, rfl, by omega, rfl, .push _ _, by simp [turnL]⟩ ?_)
  rintro m _ H1 ⟨i, rfl, hi, rfl, hE, hrow⟩
  refine L_reg [0, 2, 7, 13, 14, 15, 16] (fun K hK => ?_)
  simp
  apply hK; clear hK K
  refine L_dec (i < l.length) (by simp) (fun hlt => ?_) (fun hge => L_exit ?_)
  · obtain ⟨r', rfl, rfl, hld⟩ := hv i hlt
    have hld' := hE.ld hld
    simp only [List.getElem_map] at hld'
    have hpn := hle l[i] (List.getElem_mem hlt)
    have htk : turnL n k (l.take (i + 1)) = turnL n k (l.take i) ++ [(l[i] + k) % (n + 1)] := by
      rw [List.take_succ_eq_append_getElem hlt]; simp only [turnL, List.map_append, List.map_cons, List.map_nil]
    have hlen : (turnL n k (l.take i)).length = i := by rw [turnL_length]; simp; omega
    generalize l[i] = p at hld' hpn htk
    generalize turnL n k (l.take i) = done at hrow htk hlen
    refine L_block ?_
    refine L_reg [0, 2, 7, 8, 9, 13, 14, 15] (fun K hK => ?_)
    simp [hlt, hld']
    apply hK; clear hK K
    have hst := store_row (P := Try.prog) (u := 3) (p := i) sc3 (x := .int .i64 (((p + k) % (n + 1) : Nat) : Int)) (y := .int .i64 0) rfl hrow (by
      rw [List.getElem?_map, List.getElem?_append_right (by simp [hlen]), List.length_map, hlen]; simp [show 0 < l.length - i by omega])
    have hrem := rem_nat (p + k) (n + 1)
    simp only [Int.natCast_add, Int.natCast_one] at hrem
    have hne : ((n : Int) + 1) ≠ 0 := by omega
    refine L_reg [0, 2, 7, 13, 14, 15] (fun K hK => ?_)
    simp only [List.map_append, List.map_replicate, Nat.zero_min] at hst
    simp [wrap_i64 (a := (p : Int) + (k : Int)) (by omega), wrap_i64 (a := (n : Int) + 1) (by omega), hne, hrem, hlt, -Int.natCast_emod]
    simp [hst, -Int.natCast_emod]
    apply hK; clear hK K
    refine L_reg [0, 2, 7, 13, 14, 15] (fun K hK => ?_)
    simp [wrap_i64 (a := (i : Int) + 1) (by omega)]
    apply hK; clear hK K
    refine ⟨l.length - (i + 1), [.int .i64 (i + 1 : Nat)], by omega, by simp, i + 1, rfl, by omega, rfl, hE.set _ (Nat.le_refl _), ?_⟩
    rw [get_set hrow, htk]
    rw [show l.length - i = (l.length - (i + 1)) + 1 by omega, List.replicate_succ, ← hlen]
    simp
  · refine L_reg [6] (fun K hK => ?_)
    simp
    apply hK; clear hK K
    refine L_ret ⟨.inr rfl, _, rfl, ?_⟩
    have hi' : i = l.length := by omega
    subst hi'
    rw [List.take_length] at hrow
    refine h _ _ ?_ hE
    have := Ls.row (l := (turnL n k l).map Int.ofNat) (f := false) (by simpa using hrow)
    rw [List.length_map, turnL_length] at this
    exact this

/-- Do turned places serve all? -/
def servT (n : Nat) (l : List Nat) (k : Nat) : Bool := checkS n ((turnL n k l).map Int.ofNat) == 0 && !decide (-1 ∈ parkS n 0 (turnL n k l))
def turnsL (n : Nat) (l : List Nat) (k : Nat) : List Int := ((List.range k).filter (servT n l)).map Int.ofNat
theorem turnsL_succ (n : Nat) (l : List Nat) (k : Nat) : turnsL n l (k + 1) = turnsL n l k ++ (if servT n l k then [(k : Int)] else []) := by
  unfold turnsL
  rw [List.range_succ, List.filter_append, List.map_append]
  congr 1
  cases h : servT n l k <;> simp [h]
theorem turnsL_len (n : Nat) (l : List Nat) (k : Nat) : (turnsL n l k).length ≤ k := by
  unfold turnsL
  rw [List.length_map]
  exact Nat.le_trans (List.length_filter_le _ _) (by simp)
def okP (n : Int) (l : List Int) : Bool := l.all fun b => decide (0 ≤ b) && decide (b ≤ n)
def turnsE (n : Int) (l : List Int) : Int := if okBays n ≠ 0 then 1 else if n < l.length then 3 else if okP n l then 0 else 2
def turnsS (n : Int) (l : List Int) : List Int := if turnsE n l ≠ 0 then [] else turnsL n.toNat (natL l) (n.toNat + 1)
theorem okP_nat {n : Int} {l : List Int} (h : okP n l = true) : ∃ l' : List Nat, l = l'.map Int.ofNat ∧ ∀ w ∈ l', (w : Int) ≤ n := by
  refine ⟨l.map Int.toNat, ?_, fun w hw => ?_⟩
  · rw [List.map_map]
    conv => lhs; rw [← List.map_id l]
    refine List.map_congr_left fun b hb => ?_
    have := List.all_eq_true.1 h b hb
    simp only [Bool.and_eq_true, decide_eq_true_eq] at this
    simp [Int.toNat_of_nonneg this.1]
  · obtain ⟨b, hb, rfl⟩ := List.mem_map.1 hw
    have := List.all_eq_true.1 h b hb
    simp only [Bool.and_eq_true, decide_eq_true_eq] at this
    omega

theorem Turns_ac (n : Int) (v : AV) (l : List Int) (H : AH) (Q : AV → AH → Prop) (hl : l.length ≤ 1048576) (hv : Ls H v l) (h : ∀ v' H', Ls H' v' (turnsS n l) → Ext H H' → Q (.tuple [v', .int .i64 (turnsE n l)]) H') : AC Try.prog 39 [.int .i64 n, v] H Q := by
  have hv0 := hv
  obtain ⟨r, off, ver, sz, full, rfl, hv⟩ := hv
  refine L_body 58 Try.func39 rfl rfl ?_
  refine L_reg [0, 1] (fun K hK => ?_)
  simp
  apply hK; clear hK K
  refine L_reg [0, 1, 6] (fun K hK => ?_)
  simp [okFn_low]
  refine checkBays_ac _ _ _ ?_
  simp
  apply hK; clear hK K
  refine L_reg [0, 1, 6, 15] (fun K hK => ?_)
  simp
  apply hK; clear hK K
  rcases okBays_cases n with ⟨h0, hn1, hn8⟩ | ⟨h0, hn⟩
  case inr =>
    refine L_true (by simp [h0]) ?_
    refine L_reg [4, 5] (fun K hK => ?_)
    simp
    apply hK; clear hK K
    have e : turnsE n l = 1 := by rw [turnsE, if_pos (by omega)]
    rw [turnsS, e, if_pos (by decide)] at h
    rw [h0]
    exact L_ret ⟨.inr rfl, _, rfl, h _ _ (.nil _) (.refl _)⟩
  refine L_false (by simp [h0]) ?_
  obtain ⟨m, rfl⟩ := Int.eq_ofNat_of_zero_le (show 0 ≤ n by omega)
  have hm : m ≤ 8 := by omega
  refine L_reg [0, 1, 20] (fun K hK => ?_)
  simp
  apply hK; clear hK K
  by_cases hlen : m < l.length
  case pos =>
    refine L_true (by simp; omega) ?_
    refine L_reg [4, 5] (fun K hK => ?_)
    simp
    apply hK; clear hK K
    have e : turnsE m l = 3 := by rw [turnsE, if_neg (by omega), if_pos (by omega)]
    rw [turnsS, e, if_pos (by decide)] at h
    exact L_ret ⟨.inr rfl, _, rfl, h _ _ (.nil _) (.refl _)⟩
  refine L_false (by simp; omega) ?_
  have hE0 : turnsE m l = if okP m l then 0 else 2 := by rw [turnsE, if_neg (by omega), if_neg (by omega)]
  refine L_reg [0, 1, 21, 22, 23] (fun K hK => ?_)
  simp
  apply hK; clear hK K
  refine L_block (L_loopV [23] (fun k vs H' => ∃ i : Nat, k = l.length - i ∧ i ≤ l.length ∧ okP m (l.take i) = true ∧ vs = [.int .i64 i] ∧ H = H') _ [.int .i64 (0 : Nat)] rfl ⟨0, rfl, by omega, rfl, rfl, rfl⟩ ?_)
  rintro k _ _ ⟨i, rfl, hi, hok, rfl, rfl⟩
  refine L_reg [0, 1, 21, 22, 23, 24] (fun K hK => ?_)
  simp
  apply hK; clear hK K
  refine L_dec (i < l.length) (by simp) (fun hlt => ?_) (fun hge => L_exit ?_)
  · obtain ⟨r', rfl, rfl, hld⟩ := hv i hlt
    refine L_block ?_
    refine L_reg [0, 1, 8, 21, 22, 23] (fun K hK => ?_)
    simp [hlt, hld]
    apply hK; clear hK K
    have hts := all_take_succ (l := l) (p := fun b => decide (0 ≤ b) && decide (b ≤ (m : Int))) hlt
    have hbad := all_of_bad (l := l) (p := fun b => decide (0 ≤ b) && decide (b ≤ (m : Int))) hlt
    generalize l[i] = x at hts hbad
    by_cases hx : 0 ≤ x ∧ x ≤ m
    · refine L_reg [0, 1, 21, 22, 23, 33] (fun K hK => ?_)
      simp [show ¬ x < 0 by omega, pickV]
      apply hK; clear hK K
      refine L_false (by simp; omega) ?_
      refine L_reg [0, 1, 21, 22, 23] (fun K hK => ?_)
      simp [wrap_i64 (a := (i : Int) + 1) (by omega)]
      apply hK; clear hK K
      exact ⟨l.length - (i + 1), [.int .i64 (i + 1 : Nat)], by omega, rfl, i + 1, rfl, by omega, by
        rw [okP, hts]; simp only [Bool.and_eq_true, decide_eq_true_eq]; exact ⟨hok, hx⟩, rfl, rfl⟩
    · have e : okP m l = false := hbad (by simp; omega)
      rw [e] at hE0
      have hx' : x < 0 ∨ (¬ x < 0 ∧ (m : Int) < x) := by omega
      rcases hx' with hx1 | ⟨hx1, hx2⟩
      all_goals
        refine L_reg [0, 1, 21, 22, 23, 33] (fun K hK => ?_)
        simp [hx1, pickV]
        apply hK; clear hK K
        refine L_true (by simp; try omega) ?_
        refine L_reg [4, 5] (fun K hK => ?_)
        simp
        apply hK; clear hK K
        rw [turnsS, hE0, if_pos (by decide)] at h
        exact L_ret ⟨.inr rfl, _, rfl, h _ _ (.nil _) (.refl _)⟩
  · rw [List.take_of_length_le (by omega)] at hok
    rw [hok] at hE0
    simp only [if_true] at hE0
    rw [turnsS, hE0, if_neg (by decide)] at h
    obtain ⟨l', rfl, hw⟩ := okP_nat hok
    rw [natL_of] at h
    simp only [List.length_map, Int.toNat_natCast] at *
    refine L_reg [0, 1, 9] (fun K hK => ?_)
    simp
    apply hK; clear hK K
    refine L_reg [0, 1, 9, 10] (fun K hK => ?_)
    simp
    apply hK; clear hK K
    refine L_block (L_loopV [9, 10] (fun k vs H' => ∃ (b : Nat) (u : AV), k = m + 1 - b ∧ b ≤ m + 1 ∧ vs = [u, .int .i64 b] ∧ Ext H H' ∧ OwnF H.length H' u ((turnsL m l' b).map (.int .i64))) _ [.slice none 0 0 0 1 false, .int .i64 (0 : Nat)] rfl ⟨0, _, rfl, by omega, rfl, .refl _, .nil _ _⟩ ?_)
    rintro k _ H1 ⟨b, u, rfl, hb, rfl, hE, hO⟩
    refine L_reg [0, 1, 9, 10, 37] (fun K hK => ?_)
    simp
    apply hK; clear hK K
    refine L_dec (b ≤ m) (by simp) (fun hlt => ?_) (fun hge => L_exit ?_)
    · have hts := turnsL_succ m l' b
      have htl := turnsL_len m l' b
      have hlen' : l'.length ≤ m := by omega
      refine L_block ?_
      refine L_reg [0, 1, 9, 10, 11] (fun K hK => ?_)
      simp [okFn_low]
      refine turned_ac m b _ l' _ _ hm (by omega) (by omega) (fun p hp => by have := hw p hp; omega) (by simpa using hv0.ext hE) (fun v2 H2 hv2 hE2 => ?_)
      have hEE := hE.trans hE2
      have hO2 : OwnF H.length H2 u ((turnsL m l' b).map (.int .i64)) := by
        rcases hO with h1 | ⟨r, ver, st, h1, h2, h3⟩
        · exact .inl h1
        · exact .inr ⟨r, ver, st, h1, h2, hE2.row h3⟩
      simp
      apply hK; clear hK K
      have hcont : ∀ u' H3, Ext H H3 → OwnF H.length H3 u' ((turnsL m l' (b + 1)).map (.int .i64)) → ∃ n' vs', n' < m + 1 - b ∧ ([(0, AV.int .i64 m), (1, .slice r off l'.length ver sz full), (9, u'), (10, .int .i64 ((b : Int) + 1))] : Env) = esets [(0, .int .i64 m), (1, .slice r off l'.length ver sz full), (9, .slice none 0 0 0 1 false), (10, .int .i64 0)] [9, 10] vs' ∧
          ∃ (b : Nat) (u : AV), n' = m + 1 - b ∧ b ≤ m + 1 ∧ vs' = [u, .int .i64 b] ∧ Ext H H3 ∧ OwnF H.length H3 u ((turnsL m l' b).map (.int .i64)) :=
        fun u' H3 h1 h2 => ⟨m + 1 - (b + 1), [u', .int .i64 (b + 1 : Nat)], by omega, by simp, b + 1, u', rfl, by omega, rfl, h1, h2⟩
      by_cases hc : checkS m ((turnL m b l').map Int.ofNat) = 0
      · obtain ⟨m', l2, e1, hm1, hm8, e2, hlen2, hw2⟩ := checked hc
        have hgood : servT m l' b = !decide (-1 ∈ parkS m 0 (turnL m b l')) := by rw [servT, hc]; rfl
        refine L_reg [0, 1, 9, 10, 52] (fun K hK => ?_)
        simp [okFn_low]
        refine Check_ac m v2 _ _ _ (by simp [turnL_length]; omega) hv2 ?_
        simp [hc, okFn_low]
        refine serves_ac m v2 _ _ _ hm (by rw [turnL_length]; omega) hv2 (fun H3 hE3 => ?_)
        rw [← hgood]
        simp [pickV]
        apply hK; clear hK K
        have hO3 : OwnF H.length H3 u ((turnsL m l' b).map (.int .i64)) := by
          rcases hO2 with h1 | ⟨r, ver, st, h1, h2, h3⟩
          · exact .inl h1
          · exact .inr ⟨r, ver, st, h1, h2, hE3.row h3⟩
        have hEEE := hEE.trans hE3
        refine L_split rfl (fun hg => ?_) (fun hg => ?_)
        · rw [hg] at hts
          obtain ⟨ur, uv, hu⟩ := hO3.len
          obtain ⟨v', H', he, hO', hE'⟩ := ownF_append hEEE el22 el22 (x := .int .i64 (b : Int)) (m := 1) hO3 rfl (by simp; omega)
          refine L_reg [0, 1, 9, 10] (fun K hK => ?_)
          simp [he]
          apply hK; clear hK K
          refine L_reg [0, 1, 9, 10] (fun K hK => ?_)
          simp [wrap_i64 (a := (b : Int) + 1) (by omega)]
          apply hK; clear hK K
          exact hcont v' H' hE' (by rw [hts]; simpa using hO')
        · rw [hg] at hts
          refine L_reg [0, 1, 9, 10] (fun K hK => ?_)
          simp [wrap_i64 (a := (b : Int) + 1) (by omega)]
          apply hK; clear hK K
          exact hcont u H3 hEEE (by rw [hts]; simpa using hO3)
      · have hgood : servT m l' b = false := by
          rw [servT]
          have : (checkS m ((turnL m b l').map Int.ofNat) == 0) = false := by simpa using hc
          rw [this]; rfl
        have hc' : (checkS m ((turnL m b l').map Int.ofNat) == 0) = false := by simpa using hc
        rw [hgood] at hts
        refine L_reg [0, 1, 9, 10, 52] (fun K hK => ?_)
        simp [okFn_low]
        refine Check_ac m v2 _ _ _ (by simp [turnL_length]; omega) hv2 ?_
        simp [hc', pickV]
        apply hK; clear hK K
        refine L_false (by simp) ?_
        refine L_reg [0, 1, 9, 10] (fun K hK => ?_)
        simp [wrap_i64 (a := (b : Int) + 1) (by omega)]
        apply hK; clear hK K
        exact hcont u H2 hEE (by rw [hts]; simpa using hO2)
    · refine L_reg [4, 5] (fun K hK => ?_)
      simp
      apply hK; clear hK K
      have : b = m + 1 := by omega
      subst this
      exact L_ret ⟨.inr rfl, _, rfl, h _ _ hO.own.ls hE⟩
end Go.Proofs.Ytojblooaiojmcaa
