/- Joined texts: OPins, OPdq, OSort, Small, Home, Lack, HFacts, HSpan, HPoss, Works, HomeS, GCode, GDiff, GPairs, GTab. -/
import Derived.Test.YtmlhekfkniibmaaDoorJf3fa
/- Sorting numbers (Pins). -/
namespace Go.Proofs.YtmlhekfkniibmaaDoor.Ord
open Go Go.Proofs.YtmlhekfkniibmaaDoor.AX Go.Proofs.YtmlhekfkniibmaaDoor
variable {sb : Bool}

set_option maxRecDepth 100000 in
theorem partial_ac (D : Int → Prop) (κ : Int → Int) (r ver a b : Nat) (c : List Int) (H : AH) (Q : AV → AH → Prop) (hC : CmpO D κ r H) (hr : Rw r ver H c) (hD : All D c) (hl : c.length ≤ 1000000) (hab : a < b) (hb : b ≤ c.length) (hpre : 0 < a → ∀ k, a ≤ k → k < b → κ (g c (a - 1)) ≤ κ (g c k))
    (h : ∀ (H' : AH) (m : List Int) (t : Bool), Shuf a b c m → (t = true → Srt κ a b m) → Rw r ver H' m → KeepX r H H' → Q (.bool t) H') : AC Tryd.prog 75 [SV sb r 0 c.length ver, .int .i64 a, .int .i64 b] H Q := by
  refine L_body 133 Tryd.func75 rfl rfl ?_
  generalize hn : c.length = n at *
  refine L_reg [0, 1, 2] (fun K hK => ?_)
  simp
  apply hK; clear hK K
  refine L_reg [0, 1, 2, 7] (fun K hK => ?_)
  simp [wrap_i64 (a := (a : Int) + 1) (by omega)]
  apply hK; clear hK K
  refine L_reg [0, 1, 2, 7, 8] (fun K hK => ?_)
  simp
  apply hK; clear hK K
  refine L_block (L_loopV [7, 8] (fun k vs H' => ∃ (i jj : Nat) (d : List Int), k = 5 - jj ∧ jj ≤ 5 ∧ a ≤ i ∧ i + 1 ≤ b ∧ Shuf a b c d ∧ Srt κ a (i + 1) d ∧ vs = [.int .i64 ((i : Int) + 1), .int .i64 jj] ∧ Rw r ver H' d ∧ KeepX r H H') _ [.int .i64 ((a : Int) + 1), .int .i64 (0 : Nat)] rfl ⟨a, 0, c, rfl, by omega, by omega, by omega, .refl _ _ _, fun p q h1 h2 h3 => by omega, rfl, hr, .refl r H⟩ ?_)
  rintro k _ H1 ⟨i, jj, d, rfl, hjj, hai, hib, hS, hso, rfl, hrow, hK⟩
  refine L_reg [0, 1, 2, 7, 8, 14] (fun K hK => ?_)
  simp
  apply hK; clear hK K
  refine L_dec ((jj : Int) < 5) (by simp) (fun hlt => ?_) (fun hge => L_exit ?_)
  · refine L_block ?_
    have hjl : jj < 5 := by omega
    have hdl : d.length = n := by rw [hS.len]; exact hn
    have hdD := hD.perm hS.1
    have hCk := hC.keep hK
    refine L_blockR (fun e' H' => ∃ (i2 : Nat) (v16 v : AV), i ≤ i2 ∧ i2 + 1 ≤ b ∧ Srt κ a (i2 + 1) d ∧ (i2 + 1 < b → κ (g d (i2 + 1)) < κ (g d i2)) ∧ e' = [(0, SV sb r 0 n ver), (1, .int .i64 a), (2, .int .i64 b), (7, .int .i64 ((i2 : Int) + 1)), (8, .int .i64 (jj : Nat)), (14, v16), (32, v)] ∧ H1 = H') (L_loopV [7] (fun k vs H' => ∃ i2 : Nat, k = b - i2 ∧ i ≤ i2 ∧ i2 + 1 ≤ b ∧ Srt κ a (i2 + 1) d ∧ vs = [.int .i64 ((i2 : Int) + 1)] ∧ H1 = H') _ [.int .i64 ((i : Int) + 1)] rfl ⟨i, rfl, by omega, by omega, hso, rfl, rfl⟩ ?_) ?_
    · rintro k _ _ ⟨i2, rfl, h1, h2, h3, rfl, rfl⟩
      by_cases hc : i2 + 1 < b
      · have hcq : (i2 : Int) + 1 < b := by omega
        have hx := hrow.ld (i := i2 + 1) (by omega)
        have hy := hrow.ld (i := i2) (by omega)
        have hw : IntKind.i64.wrap (i2 : Int) = (i2 : Int) := wrap_i64 (by omega)
        have t1 : ((i2 : Int) + 1).toNat = i2 + 1 := by omega
        have t2 : (0 : Int) ≤ (i2 : Int) + 1 := by omega
        have t3 : (i2 : Int) + 1 < (n : Int) := by omega
        have t4 : i2 < n := by omega
        refine L_regT mixed [0, 1, 2, 7, 8, 14, 32] (by kernel_rfl) (fun K hK => ?_)
        simp [okFn_low, hw, t1, t2, t3, t4, hx, hy, hcq]
        refine exC_mk (fun Q hQ => hCk.2 H1 (.refl _ _) _ _ (hdD (i2 + 1) (by omega)) (hdD i2 (by omega)) Q hQ) ?_
        simp [pickV]
        apply hK; clear hK K
        by_cases hless : κ (g d (i2 + 1)) < κ (g d i2)
        · have := cmpS_neg.2 hless
          refine L_false (by simpa using this) (L_exit ?_)
          exact ⟨i2, _, _, h1, h2, h3, fun _ => hless, rfl, rfl⟩
        · have : ¬ cmpS (κ (g d (i2 + 1))) (κ (g d i2)) < 0 := fun h => hless (cmpS_neg.1 h)
          refine L_true (by simpa using this) ?_
          refine L_block ?_
          refine L_reg [0, 1, 2, 7, 8, 14] (fun K hK => ?_)
          simp [wrap_i64 (a := (i2 : Int) + 1 + 1) (by omega)]
          apply hK; clear hK K
          exact ⟨b - (i2 + 1), [.int .i64 (((i2 + 1 : Nat) : Int) + 1)], by omega, by simp, i2 + 1, rfl, by omega, by omega, h3.more (by omega) (by omega), rfl, rfl⟩
      · have hcq : ¬ (i2 : Int) + 1 < b := by omega
        refine L_regT mixed [0, 1, 2, 7, 8, 14, 32] (by kernel_rfl) (fun K hK => ?_)
        simp [pickV, hcq]
        apply hK; clear hK K
        refine L_false (by simp) (L_exit ?_)
        exact ⟨i2, _, _, h1, h2, h3, fun h => absurd h hc, rfl, rfl⟩
    rintro _ _ ⟨i2, v16, v36, hi2, hi2b, hso2, hstop, rfl, rfl⟩
    clear hso
    refine L_reg [0, 1, 2, 7, 8, 37] (fun K hK => ?_)
    simp
    apply hK; clear hK K
    refine L_split rfl (fun heq => ?_) (fun hne => ?_)
    · have : i2 + 1 = b := by have := eq_of_beq heq; omega
      refine L_reg [6] (fun K hK => ?_)
      simp
      apply hK; clear hK K
      subst this
      exact L_ret ⟨.inr rfl, _, rfl, h H1 d true hS (fun _ => hso2) hrow hK⟩
    have hib2 : i2 + 1 < b := by
      have : ¬ (i2 : Int) + 1 = b := by simpa using hne
      omega
    refine L_reg [0, 1, 2, 7, 8, 41] (fun K hK => ?_)
    simp [wrap_i64 (a := (b : Int) - a) (by omega)]
    apply hK; clear hK K
    refine L_dec ((b : Int) - a < 50) (by simp) (fun h50 => ?_) (fun h50 => ?_)
    · refine L_reg [6] (fun K hK => ?_)
      simp
      apply hK; clear hK K
      exact L_ret ⟨.inr rfl, _, rfl, h H1 d false hS (fun h => by cases h) hrow hK⟩
    have hx := hrow.ld (i := i2 + 1) (by omega)
    have hy := hrow.ld (i := i2) (by omega)
    have hw : IntKind.i64.wrap (i2 : Int) = (i2 : Int) := wrap_i64 (by omega)
    have t1 : ((i2 : Int) + 1).toNat = i2 + 1 := by omega
    have t2 : (0 : Int) ≤ (i2 : Int) + 1 := by omega
    have t3 : (i2 : Int) + 1 < (n : Int) := by omega
    have t4 : i2 < n := by omega
    obtain ⟨H2, H3, e1, e2, e3, e4⟩ := hrow.swap (i := i2 + 1) (j := i2) (by omega) (by omega)
    refine L_regT mixed [0, 1, 2, 7, 8] (by kernel_rfl) (fun K hK => ?_)
    simp [hw, t1, t2, t3, t4, hx, hy, e1, e2]
    apply hK; clear hK K
    have w0 := sw_i (c := d) (i := i2 + 1) (j := i2) (by omega) (by omega)
    have w1 := sw_j (c := d) (i := i2 + 1) (j := i2) (by omega) (by omega)
    have w2 := fun (k : Nat) (k1 : k ≠ i2 + 1) (k2 : k ≠ i2) => sw_o (c := d) (i := i2 + 1) (j := i2) (by omega) (by omega) k1 k2
    have hS3 : Shuf a b c (sw d (i2 + 1) i2) := hS.trans (.swap (by omega) (by omega) (by omega))
    have hole : ∀ p q, a ≤ p → p < q → q ≤ i2 → q ≠ i2 → κ (g (sw d (i2 + 1) i2) p) ≤ κ (g (sw d (i2 + 1) i2) q) := by
      intro p q h1 h2 h3 h4
      rw [w2 p (by omega) (by omega), w2 q (by omega) (by omega)]
      exact hso2 p q h1 h2 (by omega)
    have hK3 := hK.trans e4
    generalize sw d (i2 + 1) i2 = d3 at e3 hS3 hole
    clear w0 w1 w2 e1 e2 hx hy hw t1 t2 t3 t4 hrow hK hdD hCk hdl hS hstop hso2 e4
    clear hlt hne h50
    clear H2
    have hrow := e3
    have hS := hS3
    have hK := hK3
    clear e3 hS3 hK3
    refine L_reg [0, 1, 2, 7, 8, 61] (fun K hK => ?_)
    simp [wrap_i64 (a := (i2 : Int) + 1 - a) (by omega)]
    apply hK; clear hK K
    refine L_condK [0, 1, 2, 7, 8] (fun e' H' => ∃ d : List Int, Shuf a b c d ∧ Srt κ a (i2 + 1) d ∧ Rw r ver H' d ∧ KeepX r H H' ∧ e' = [(0, SV sb r 0 n ver), (1, .int .i64 a), (2, .int .i64 b), (7, .int .i64 ((i2 : Int) + 1)), (8, .int .i64 (jj : Nat))]) (t := decide ((2 : Int) ≤ (i2 : Int) + 1 - a)) (by simp) (fun ht => ?_) (fun ht => ?_) ?_
    · have h2 : (2 : Int) ≤ (i2 : Int) + 1 - a := of_decide_eq_true ht
      refine L_reg [0, 1, 2, 7, 8, 9] (fun K hK => ?_)
      simp [wrap_i64 (a := (i2 : Int)) (by omega)]
      apply hK; clear hK K
      refine L_block (L_loopV [9] (fun k vs H' => ∃ (j : Nat) (d : List Int), k = j ∧ a ≤ j ∧ j ≤ i2 ∧ Shuf a b c d ∧ (∀ p q, a ≤ p → p < q → q ≤ i2 → q ≠ j → κ (g d p) ≤ κ (g d q)) ∧ vs = [.int .i64 j] ∧ Rw r ver H' d ∧ KeepX r H H') _ [.int .i64 i2] rfl ⟨i2, d3, rfl, by omega, by omega, hS, hole, rfl, hrow, hK⟩ ?_)
      clear hS hole hrow hK
      clear d3 H3 d H1
      rintro k _ H1 ⟨j, d, rfl, haj, hji, hS, ho, rfl, hrow, hK⟩
      have hdl : d.length = n := by rw [hS.len]; exact hn
      have hdD := hD.perm hS.1
      have hCk := hC.keep hK
      cases k with
      | zero =>
        refine L_reg [0, 1, 2, 7, 8, 9, 65] (fun K hK => ?_)
        simp
        apply hK; clear hK K
        refine L_false (by simp) (L_exit ?_)
        exact ⟨d, hS, fun p q h1 h2 h3 => ho p q h1 h2 (by omega) (by omega), hrow, hK, rfl⟩
      | succ j =>
        refine L_reg [0, 1, 2, 7, 8, 9, 65] (fun K hK => ?_)
        simp
        apply hK; clear hK K
        refine L_true (by simp; omega) ?_
        refine L_block ?_
        have hx := hrow.ld (i := j + 1) (by omega)
        have hy := hrow.ld (i := j) (by omega)
        have hw : IntKind.i64.wrap (j : Int) = (j : Int) := wrap_i64 (by omega)
        have t1 : ((j : Int) + 1).toNat = j + 1 := by omega
        have t2 : (0 : Int) ≤ (j : Int) + 1 := by omega
        have t3 : (j : Int) + 1 < (n : Int) := by omega
        have t4 : j < n := by omega
        refine L_regT mixed [0, 1, 2, 7, 8, 9, 78] (by kernel_rfl) (fun K hK => ?_)
        simp [okFn_low, hw, t1, t2, t3, t4, hx, hy]
        refine exC_mk (fun Q hQ => hCk.2 H1 (.refl _ _) _ _ (hdD (j + 1) (by omega)) (hdD j (by omega)) Q hQ) ?_
        simp
        apply hK; clear hK K
        by_cases hless : κ (g d (j + 1)) < κ (g d j)
        · have := cmpS_neg.2 hless
          refine L_false (by simpa using this) ?_
          have haj2 : a ≤ j := by
            by_cases e : a ≤ j
            · exact e
            · have ea : a = j + 1 := by omega
              exfalso
              have h5 := hS.all (by omega) (p := fun x => κ (g c (a - 1)) ≤ κ x) (fun k h6 h7 => hpre (by omega) k h6 h7) (j + 1) (by omega) (by omega)
              rw [← hS.2 (a - 1) (by omega), show a - 1 = j by omega] at h5
              have h5 : κ (g d j) ≤ κ (g d (j + 1)) := h5
              omega
          obtain ⟨H2, H3, e1, e2, e3, e4⟩ := hrow.swap (i := j + 1) (j := j) (by omega) (by omega)
          refine L_regT mixed [0, 1, 2, 7, 8, 9] (by kernel_rfl) (fun K hK => ?_)
          simp [hw, t1, t2, t3, t4, hx, hy, e1, e2]
          apply hK; clear hK K
          refine L_reg [0, 1, 2, 7, 8, 9] (fun K hK => ?_)
          simp [hw]
          apply hK; clear hK K
          refine ⟨j, [.int .i64 (j : Nat)], by omega, by simp, j, _, rfl, by omega, by omega, hS.trans (.swap (by omega) (by omega) (by omega)), fun p q h1 h2 h3 h4 => ?_, rfl, e3, hK.trans e4⟩
          have w0 := sw_i (c := d) (i := j + 1) (j := j) (by omega) (by omega)
          have w1 := sw_j (c := d) (i := j + 1) (j := j) (by omega) (by omega)
          have w2 := fun (k : Nat) (k1 : k ≠ j + 1) (k2 : k ≠ j) => sw_o (c := d) (i := j + 1) (j := j) (by omega) (by omega) k1 k2
          by_cases q1 : q = j + 1
          · subst q1
            by_cases p1 : p = j
            · subst p1; rw [w0, w1]; omega
            · rw [w0, w2 p (by omega) p1]
              exact ho p j h1 (by omega) (by omega) (by omega)
          · rw [w2 q q1 h4]
            by_cases p1 : p = j
            · subst p1; rw [w1]
              exact ho (p + 1) q (by omega) (by omega) h3 (by omega)
            · by_cases p2 : p = j + 1
              · subst p2; rw [w0]
                exact ho j q (by omega) (by omega) h3 (by omega)
              · rw [w2 p p2 p1]
                exact ho p q h1 h2 h3 (by omega)
        · have : ¬ cmpS (κ (g d (j + 1))) (κ (g d j)) < 0 := fun h => hless (cmpS_neg.1 h)
          refine L_true (by simpa using this) (L_exit ?_)
          refine ⟨d, hS, fun p q h1 h2 h3 => ?_, hrow, hK, rfl⟩
          by_cases q1 : q = j + 1
          · subst q1
            by_cases p1 : p = j
            · subst p1; omega
            · have := ho p j h1 (by omega) (by omega) (by omega)
              omega
          · exact ho p q h1 h2 (by omega) q1
    · have h2 : ¬ (2 : Int) ≤ (i2 : Int) + 1 - a := of_decide_eq_false ht
      exact ⟨d3, hS, fun p q h1 h2 h3 => by omega, hrow, hK, by simp⟩
    clear hS hole hrow hK
    clear d3 H3 d H1
    rintro _ H1 ⟨d, hS, hso, hrow, hK, rfl⟩
    refine L_reg [0, 1, 2, 7, 8, 98] (fun K hK => ?_)
    simp [wrap_i64 (a := (b : Int) - ((i2 : Int) + 1)) (by omega)]
    apply hK; clear hK K
    refine L_dec ((2 : Int) ≤ (b : Int) - ((i2 : Int) + 1)) (by simp) (fun h2 => ?_) (fun h2 => ?_)
    · refine L_reg [0, 1, 2, 7, 8, 10] (fun K hK => ?_)
      simp [wrap_i64 (a := (i2 : Int) + 1 + 1) (by omega)]
      apply hK; clear hK K
      refine L_blockR (fun e' H' => ∃ (d : List Int) (v12 v x : AV), Shuf a b c d ∧ Srt κ a (i2 + 1) d ∧ Rw r ver H' d ∧ KeepX r H H' ∧ (e' = [(0, SV sb r 0 n ver), (1, .int .i64 a), (2, .int .i64 b), (7, .int .i64 ((i2 : Int) + 1)), (8, .int .i64 (jj : Nat)), (10, v12), (103, v)] ∨ e' = [(0, SV sb r 0 n ver), (1, .int .i64 a), (2, .int .i64 b), (7, .int .i64 ((i2 : Int) + 1)), (8, .int .i64 (jj : Nat)), (10, v12), (116, v)])) (L_loopV [10] (fun k vs H' => ∃ (j : Nat) (d : List Int), k = b - j ∧ i2 + 1 ≤ j ∧ j + 1 ≤ b ∧ Shuf a b c d ∧ Srt κ a (i2 + 1) d ∧ vs = [.int .i64 ((j : Int) + 1)] ∧ Rw r ver H' d ∧ KeepX r H H') _ [.int .i64 ((i2 : Int) + 1 + 1)] rfl ⟨i2 + 1, d, rfl, by omega, by omega, hS, hso, rfl, hrow, hK⟩ ?_) ?_
      · clear hS hso hrow hK
        clear d H1
        rintro k _ H1 ⟨j, d, rfl, h1, h2, hS, hso, rfl, hrow, hK⟩
        have hdl : d.length = n := by rw [hS.len]; exact hn
        have hdD := hD.perm hS.1
        have hCk := hC.keep hK
        refine L_reg [0, 1, 2, 7, 8, 10, 103] (fun K hK => ?_)
        simp
        apply hK; clear hK K
        refine L_dec ((j : Int) + 1 < b) (by simp) (fun hlt => ?_) (fun hge => L_exit ?_)
        · refine L_block ?_
          have hx := hrow.ld (i := j + 1) (by omega)
          have hy := hrow.ld (i := j) (by omega)
          have hw : IntKind.i64.wrap (j : Int) = (j : Int) := wrap_i64 (by omega)
          have t1 : ((j : Int) + 1).toNat = j + 1 := by omega
          have t2 : (0 : Int) ≤ (j : Int) + 1 := by omega
          have t3 : (j : Int) + 1 < (n : Int) := by omega
          have t4 : j < n := by omega
          refine L_regT mixed [0, 1, 2, 7, 8, 10, 116] (by kernel_rfl) (fun K hK => ?_)
          simp [okFn_low, hw, t1, t2, t3, t4, hx, hy]
          refine exC_mk (fun Q hQ => hCk.2 H1 (.refl _ _) _ _ (hdD (j + 1) (by omega)) (hdD j (by omega)) Q hQ) ?_
          simp
          apply hK; clear hK K
          by_cases hless : κ (g d (j + 1)) < κ (g d j)
          · have := cmpS_neg.2 hless
            refine L_false (by simpa using this) ?_
            obtain ⟨H2, H3, e1, e2, e3, e4⟩ := hrow.swap (i := j + 1) (j := j) (by omega) (by omega)
            refine L_regT mixed [0, 1, 2, 7, 8, 10] (by kernel_rfl) (fun K hK => ?_)
            simp [hw, t1, t2, t3, t4, hx, hy, e1, e2]
            apply hK; clear hK K
            refine L_reg [0, 1, 2, 7, 8, 10] (fun K hK => ?_)
            simp [wrap_i64 (a := (j : Int) + 1 + 1) (by omega)]
            apply hK; clear hK K
            refine ⟨b - (j + 1), [.int .i64 (((j + 1 : Nat) : Int) + 1)], by omega, by simp, j + 1, _, rfl, by omega, by omega, hS.trans (.swap (by omega) (by omega) (by omega)), fun p q h1 h2 h3 => ?_, rfl, e3, hK.trans e4⟩
            have w2 := fun (k : Nat) (k1 : k ≠ j + 1) (k2 : k ≠ j) => sw_o (c := d) (i := j + 1) (j := j) (by omega) (by omega) k1 k2
            rw [w2 p (by omega) (by omega), w2 q (by omega) (by omega)]
            exact hso p q h1 h2 h3
          · have : ¬ cmpS (κ (g d (j + 1))) (κ (g d j)) < 0 := fun h => hless (cmpS_neg.1 h)
            refine L_true (by simpa using this) (L_exit ?_)
            exact ⟨d, _, _, .undef, hS, hso, hrow, hK, .inr rfl⟩
        · exact ⟨d, _, _, .undef, hS, hso, hrow, hK, .inl rfl⟩
      clear hS hso hrow hK
      clear d H1
      rintro _ H1 ⟨d, v12, v, -, hS, hso, hrow, hK, rfl | rfl⟩
      · refine L_reg [0, 1, 2, 7, 8] (fun K hK => ?_)
        simp [wrap_i64 (a := (jj : Int) + 1) (by omega)]
        apply hK; clear hK K
        exact ⟨5 - (jj + 1), [.int .i64 ((i2 : Int) + 1), .int .i64 (jj + 1 : Nat)], by omega, by simp, i2, jj + 1, d, rfl, by omega, by omega, by omega, hS, hso, rfl, hrow, hK⟩
      · refine L_reg [0, 1, 2, 7, 8] (fun K hK => ?_)
        simp [wrap_i64 (a := (jj : Int) + 1) (by omega)]
        apply hK; clear hK K
        exact ⟨5 - (jj + 1), [.int .i64 ((i2 : Int) + 1), .int .i64 (jj + 1 : Nat)], by omega, by simp, i2, jj + 1, d, rfl, by omega, by omega, by omega, hS, hso, rfl, hrow, hK⟩
    · refine L_reg [0, 1, 2, 7, 8] (fun K hK => ?_)
      simp [wrap_i64 (a := (jj : Int) + 1) (by omega)]
      apply hK; clear hK K
      exact ⟨5 - (jj + 1), [.int .i64 ((i2 : Int) + 1), .int .i64 (jj + 1 : Nat)], by omega, by simp, i2, jj + 1, d, rfl, by omega, by omega, by omega, hS, hso, rfl, hrow, hK⟩
  · refine L_reg [6] (fun K hK => ?_)
    simp
    apply hK; clear hK K
    exact L_ret ⟨.inr rfl, _, rfl, h H1 d false hS (fun h => by cases h) hrow hK⟩
end Go.Proofs.YtmlhekfkniibmaaDoor.Ord

/- Sorting numbers (Pdq). -/
namespace Go.Proofs.YtmlhekfkniibmaaDoor.Ord
open Go Go.Proofs.YtmlhekfkniibmaaDoor.AX Go.Proofs.YtmlhekfkniibmaaDoor
variable {sb : Bool}

set_option maxRecDepth 100000 in
theorem pivot_ac' (D : Int → Prop) (κ : Int → Int) (r ver a b l : Nat) (hbl : b = a + l) (c : List Int) (n : Nat) (hn : c.length = n) (H : AH) (Q : AV → AH → Prop) (hC : CmpO D κ r H) (hr : Rw r ver H c) (hrl : r < H.length) (hD : All D c) (hlen : n ≤ 1000000) (hl : 12 < l) (hb : b ≤ n)
    (h : ∀ (H' : AH) (x : Nat) (hint : Int), a ≤ x ∧ x < b → KeepX r H H' → Rw r ver H' c → Q (.tuple [.int .i64 x, .int .i64 hint]) H') : AC Tryd.prog 73 [SV sb r 0 n ver, .int .i64 a, .int .i64 b] H Q := by
  subst hbl; subst hn; exact pivot_ac D κ r ver a l c H Q hC hr hrl hD hlen hl hb h
set_option maxRecDepth 100000 in
theorem break_ac' (r ver a b l : Nat) (hbl : b = a + l) (c : List Int) (n : Nat) (hn : c.length = n) (H : AH) (Q : AV → AH → Prop) (hr : Rw r ver H c) (hrl : r < H.length) (hlen : n ≤ 127) (hl : 12 < l) (hb : b ≤ n)
    (h : ∀ (H' : AH) (m : List Int), Shuf a b c m → Rw r ver H' m → KeepX r H H' → Q (.tuple []) H') : AC Tryd.prog 72 [SV sb r 0 n ver, .int .i64 a, .int .i64 b] H Q := by
  subst hbl; subst hn; exact break_ac r ver a l c H Q hr hrl hlen hl hb h
set_option maxRecDepth 100000 in
theorem heapSort_ac' (D : Int → Prop) (κ : Int → Int) (r ver a b l : Nat) (hbl : b = a + l) (c : List Int) (n : Nat) (hn : c.length = n) (H : AH) (Q : AV → AH → Prop) (hC : CmpO D κ r H) (hr : Rw r ver H c) (hD : All D c) (hl : n ≤ 1000000) (hb : b ≤ n) (hl1 : 1 ≤ l)
    (h : ∀ (H' : AH) (m : List Int), Shuf a b c m → Srt κ a b m → Rw r ver H' m → KeepX r H H' → Q (.tuple []) H') : AC Tryd.prog 71 [SV sb r 0 n ver, .int .i64 a, .int .i64 b] H Q := by
  subst hbl; subst hn; exact heapSort_ac D κ r ver a l c H Q hC hr hD hl hb hl1 h
set_option maxRecDepth 100000 in
theorem partEq_ac' (D : Int → Prop) (κ : Int → Int) (r ver a b pv : Nat) (c : List Int) (n : Nat) (hn : c.length = n) (H : AH) (Q : AV → AH → Prop) (hC : CmpO D κ r H) (hr : Rw r ver H c) (hD : All D c) (hl : n ≤ 1000000) (hpa : a ≤ pv) (hpb : pv < b) (hb : b ≤ n)
    (h : ∀ (H' : AH) (m : List Int) (p : Nat), a < p → p ≤ b → Shuf a b c m → (∀ k, a ≤ k → k < p → κ (g m k) ≤ κ (g c pv)) → (∀ k, p ≤ k → k < b → κ (g c pv) < κ (g m k)) → Rw r ver H' m → KeepX r H H' → Q (.int .i64 p) H') : AC Tryd.prog 77 [SV sb r 0 n ver, .int .i64 a, .int .i64 b, .int .i64 pv] H Q := by
  subst hn; exact partEq_ac D κ r ver a b pv c H Q hC hr hD hl hpa hpb hb h
set_option maxRecDepth 100000 in
theorem part_ac' (D : Int → Prop) (κ : Int → Int) (r ver a b pv : Nat) (c : List Int) (n : Nat) (hn : c.length = n) (H : AH) (Q : AV → AH → Prop) (hC : CmpO D κ r H) (hr : Rw r ver H c) (hD : All D c) (hl : n ≤ 1000000) (hpa : a ≤ pv) (hpb : pv < b) (hb : b ≤ n)
    (h : ∀ (H' : AH) (m : List Int) (p : Nat) (bb : Bool), a ≤ p → p < b → Shuf a b c m → (∀ k, a ≤ k → k < p → κ (g m k) ≤ κ (g m p)) → (∀ k, p < k → k < b → κ (g m p) ≤ κ (g m k)) → Rw r ver H' m → KeepX r H H' → Q (.tuple [.int .i64 p, .bool bb]) H') : AC Tryd.prog 78 [SV sb r 0 n ver, .int .i64 a, .int .i64 b, .int .i64 pv] H Q := by
  subst hn; exact part_ac D κ r ver a b pv c H Q hC hr hD hl hpa hpb hb h
set_option maxRecDepth 100000 in
theorem pdq_ac (D : Int → Prop) (κ : Int → Int) (r ver n : Nat) (hn127 : n ≤ 127) : ∀ (N a b lim : Nat) (c : List Int) (H : AH) (Q : AV → AH → Prop), b - a < N → CmpO D κ r H → Rw r ver H c → r < H.length → All D c → c.length = n → a ≤ b → b ≤ n → lim ≤ 1000 → Pre κ a b c →
    (∀ (H' : AH) (m : List Int), Shuf a b c m → Srt κ a b m → Rw r ver H' m → KeepX r H H' → Q (.tuple []) H') → AC Tryd.prog 56 [SV sb r 0 n ver, .int .i64 a, .int .i64 b, .int .i64 lim] H Q := by
  intro N
  induction N with
  | zero => intro a b lim c H Q h; omega
  | succ N ih =>
  intro a b lim c H Q hN hC hr hrl hD hn hab hb hlim hpre h
  refine L_body 134 Tryd.func56 rfl rfl ?_
  refine L_reg [0, 1, 2, 3, 8] (fun K hK => ?_)
  simp
  apply hK; clear hK K
  refine L_reg [0, 1, 2, 3, 8, 9] (fun K hK => ?_)
  simp
  apply hK; clear hK K
  refine L_block (L_loopV [1, 2, 3, 8, 9] (fun k vs H' => ∃ (a' b' lm : Nat) (wb wp : Bool) (d : List Int), k = b' - a' ∧ a ≤ a' ∧ a' ≤ b' ∧ b' ≤ b ∧ lm ≤ 1000 ∧ Shuf a b c d ∧ OrdEx κ a b a' b' d ∧ Pre κ a' b' d ∧ vs = [.int .i64 a', .int .i64 b', .int .i64 lm, .bool wb, .bool wp] ∧ Rw r ver H' d ∧ KeepX r H H') _ [.int .i64 a, .int .i64 b, .int .i64 lim, .bool true, .bool true] rfl ⟨a, b, lim, true, true, c, rfl, by omega, hab, by omega, hlim, .refl _ _ _, fun p q h1 h2 h3 h4 => by omega, hpre, rfl, hr, .refl r H⟩ ?_)
  rintro _ _ H1 ⟨a', b', lm, wb, wp, d, rfl, haa, hab', hbb, hlm, hS, hO, hP, rfl, hrow, hK⟩
  refine L_block ?_
  obtain ⟨l, hbl⟩ : ∃ l, b' = a' + l := ⟨b' - a', by omega⟩
  have hdl : d.length = n := by rw [hS.len]; exact hn
  have hdD := hD.perm hS.1
  have hCk := hC.keep hK
  have hr1 : r < H1.length := by have := hK.1; omega
  refine L_reg [0, 1, 2, 3, 8, 9, 10] (fun K hK => ?_)
  simp [show ((b' : Int) - a') = l by omega, wrap_i64 (a := (l : Int)) (by omega)]
  apply hK; clear hK K
  refine L_reg [0, 1, 2, 3, 8, 9, 10, 23] (fun K hK => ?_)
  simp
  apply hK; clear hK K
  refine L_dec ((l : Int) ≤ 12) (by simp) (fun h12 => ?_) (fun h12 => ?_)
  · refine L_reg [] (fun K hK0 => ?_)
    simp [okFn_low]
    have := insertion_ac (sb := sb) D κ r ver a' b' d H1 (fun v H' => K [] H') hCk hrow hdD (by omega) (by omega) (by omega) (fun H2 m m1 m2 m3 m4 => ?_)
    · rw [hdl] at this; exact this
    apply hK0; clear hK0 K
    exact L_ret ⟨.inr rfl, _, rfl, h H2 m (hS.trans (m1.wide haa hbb)) ((hO.mix m1 (by omega) haa hbb).srt m2) m3 (hK.trans m4)⟩
  refine L_reg [0, 1, 2, 3, 8, 9, 10, 29] (fun K hK => ?_)
  simp
  apply hK; clear hK K
  refine L_split rfl (fun h0 => ?_) (fun h0 => ?_)
  · refine L_reg [] (fun K hK0 => ?_)
    simp [okFn_low]
    refine heapSort_ac' D κ r ver a' b' l hbl d n hdl H1 _ hCk hrow hdD (by omega) (by omega) (by omega) (fun H2 m m1 m2 m3 m4 => ?_)
    simp
    apply hK0; clear hK0 K
    exact L_ret ⟨.inr rfl, _, rfl, h H2 m (hS.trans (m1.wide haa hbb)) ((hO.mix m1 (by omega) haa hbb).srt m2) m3 (hK.trans m4)⟩
  have hlm0 : 1 ≤ lm := by
    have : (lm : Int) ≠ 0 := by simpa using h0
    omega
  refine L_reg [0, 1, 2, 3, 8, 9, 10, 35] (fun K hK => ?_)
  simp
  apply hK; clear hK K
  refine L_condK [0, 1, 2, 3, 8, 9, 10] (fun e' H' => ∃ (lm : Nat) (d : List Int), lm ≤ 1000 ∧ Shuf a b c d ∧ OrdEx κ a b a' b' d ∧ Pre κ a' b' d ∧ Rw r ver H' d ∧ KeepX r H H' ∧ e' = [(0, SV sb r 0 n ver), (1, .int .i64 a'), (2, .int .i64 b'), (3, .int .i64 (lm : Nat)), (8, .bool wb), (9, .bool wp), (10, .int .i64 l)]) (t := !wb) rfl (fun ht => ?_) (fun ht => ?_) ?_
  · refine L_reg [0, 1, 2, 3, 8, 9, 10] (fun K hK0 => ?_)
    simp [okFn_low]
    refine break_ac' r ver a' b' l hbl d n hdl H1 _ hrow hr1 hn127 (by omega) (by omega) (fun H2 m m1 m3 m4 => ?_)
    simp
    apply hK0; clear hK0 K
    obtain ⟨lm', rfl⟩ : ∃ x, lm = x + 1 := ⟨lm - 1, by omega⟩
    refine L_reg [0, 1, 2, 3, 8, 9, 10] (fun K hK => ?_)
    simp [wrap_i64 (a := (lm' : Int)) (by omega)]
    apply hK; clear hK K
    exact ⟨lm', m, by omega, hS.trans (m1.wide haa hbb), hO.mix m1 (by omega) haa hbb, hP.mix m1 (by omega), m3, hK.trans m4, by simp⟩
  · exact ⟨lm, d, hlm, hS, hO, hP, hrow, hK, by simp⟩
  clear hlm hS hO hP hrow hK hdl hdD hCk hr1 hlm0 h0
  clear d H1 lm
  rintro _ H1 ⟨lm, d, hlm, hS, hO, hP, hrow, hK, rfl⟩
  have hdl : d.length = n := by rw [hS.len]; exact hn
  have hdD := hD.perm hS.1
  have hr1 : r < H1.length := by have := hK.1; omega
  refine L_reg [0, 1, 2, 3, 8, 9, 10, 11, 12] (fun K hK0 => ?_)
  simp [okFn_low]
  refine pivot_ac' D κ r ver a' b' l hbl d n hdl H1 _ (hC.keep hK) hrow hr1 hdD (by omega) (by omega) (by omega) (fun H2 pv hint hpv m4 m3 => ?_)
  simp
  apply hK0; clear hK0 K
  have hK2 := hK.trans m4
  clear hrow hK hr1
  refine L_reg [0, 1, 2, 3, 8, 9, 10, 11, 12, 50] (fun K hK => ?_)
  simp
  apply hK; clear hK K
  refine L_condK [0, 1, 2, 3, 8, 9, 10, 11, 12] (fun e' H' => ∃ (pv : Nat) (hint : Int) (d : List Int), (a' ≤ pv ∧ pv < b') ∧ Shuf a b c d ∧ OrdEx κ a b a' b' d ∧ Pre κ a' b' d ∧ Rw r ver H' d ∧ KeepX r H H' ∧ e' = [(0, SV sb r 0 n ver), (1, .int .i64 a'), (2, .int .i64 b'), (3, .int .i64 lm), (8, .bool wb), (9, .bool wp), (10, .int .i64 l), (11, .int .i64 (pv : Nat)), (12, .int .i64 hint)]) (t := (hint == 2)) rfl (fun ht => ?_) (fun ht => ?_) ?_
  · refine L_reg [0, 1, 2, 3, 8, 9, 10, 11] (fun K hK0 => ?_)
    simp [okFn_low]
    have := reverse_ac (sb := sb) r ver a' b' d H2 (fun v H' => K [(0, SV sb r 0 n ver), (1, .int .i64 a'), (2, .int .i64 b'), (3, .int .i64 lm), (8, .bool wb), (9, .bool wp), (10, .int .i64 l), (11, .int .i64 pv)] H') m3 (by omega) (by omega) (by omega) (fun H3 m q1 q3 q4 => ?_)
    · rw [hdl] at this; exact this
    apply hK0; clear hK0 K
    obtain ⟨pv2, hpv2⟩ : ∃ x : Nat, (b' : Int) - 1 - ((pv : Int) - a') = x := ⟨b' - 1 - (pv - a'), by omega⟩
    refine L_reg [0, 1, 2, 3, 8, 9, 10, 11] (fun K hK => ?_)
    simp [wrap_i64 (a := (b' : Int) - 1) (by omega), wrap_i64 (a := (pv : Int) - a') (by omega), hpv2, wrap_i64 (a := (pv2 : Int)) (by omega)]
    apply hK; clear hK K
    refine L_reg [0, 1, 2, 3, 8, 9, 10, 11, 12] (fun K hK => ?_)
    simp
    apply hK; clear hK K
    exact ⟨pv2, 1, m, by omega, hS.trans (q1.wide haa hbb), hO.mix q1 (by omega) haa hbb, hP.mix q1 (by omega), q3, hK2.trans q4, by simp⟩
  · exact ⟨pv, hint, d, hpv, hS, hO, hP, m3, hK2, by simp⟩
  clear hS hO hP hdl hdD m3 m4 hK2 hpv
  clear d H1 H2 pv hint
  rintro _ H1 ⟨pv, hint, d, hpv, hS, hO, hP, hrow, hK, rfl⟩
  have hdl : d.length = n := by rw [hS.len]; exact hn
  have hdD := hD.perm hS.1
  refine L_reg [0, 1, 2, 3, 8, 9, 10, 11, 68] (fun K hK0 => ?_)
  have hK2 : ∀ t : Bool, K [(0, SV sb r 0 n ver), (1, .int .i64 a'), (2, .int .i64 b'), (3, .int .i64 lm), (8, .bool wb), (9, .bool wp), (10, .int .i64 l), (11, .int .i64 pv), (68, .bool t)] H1 := by
    intro t
    refine hK0 _ _ ?_
    clear hK0 K
    refine L_condK [0, 1, 2, 3, 8, 9, 10, 11] (fun e' H' => ∃ (d : List Int), Shuf a b c d ∧ OrdEx κ a b a' b' d ∧ Pre κ a' b' d ∧ Rw r ver H' d ∧ KeepX r H H' ∧ e' = [(0, SV sb r 0 n ver), (1, .int .i64 a'), (2, .int .i64 b'), (3, .int .i64 lm), (8, .bool wb), (9, .bool wp), (10, .int .i64 l), (11, .int .i64 (pv : Nat))]) (t := t) rfl (fun ht => ?_) (fun ht => ?_) ?_
    · refine L_reg [0, 1, 2, 3, 8, 9, 10, 11, 72] (fun K hK0 => ?_)
      simp [okFn_low]
      have := partial_ac (sb := sb) D κ r ver a' b' d H1 (fun v H' => K [(0, SV sb r 0 n ver), (1, .int .i64 a'), (2, .int .i64 b'), (3, .int .i64 lm), (8, .bool wb), (9, .bool wp), (10, .int .i64 l), (11, .int .i64 pv), (72, v)] H') (hC.keep hK) hrow hdD (by omega) (by omega) (by omega) hP (fun H3 m t q1 q2 q3 q4 => ?_)
      · rw [hdl] at this; exact this
      apply hK0; clear hK0 K
      cases t with
      | true =>
        refine L_true rfl ?_
        exact L_ret ⟨.inr rfl, _, rfl, h H3 m (hS.trans (q1.wide haa hbb)) ((hO.mix q1 (by omega) haa hbb).srt (q2 rfl)) q3 (hK.trans q4)⟩
      | false =>
        refine L_false rfl ?_
        exact ⟨m, hS.trans (q1.wide haa hbb), hO.mix q1 (by omega) haa hbb, hP.mix q1 (by omega), q3, hK.trans q4, by simp⟩
    · exact ⟨d, hS, hO, hP, hrow, hK, by simp⟩
    clear hS hO hP hrow hK hdl hdD
    clear d H1
    rintro _ H1 ⟨d, hS, hO, hP, hrow, hK, rfl⟩
    have hdl : d.length = n := by rw [hS.len]; exact hn
    have hdD := hD.perm hS.1
    have hCk := hC.keep hK
    refine L_regT mixed [0, 1, 2, 3, 8, 9, 10, 11, 87] (by kernel_rfl) (fun K hK0 => ?_)
    have hK2 : ∀ t : Bool, (t = true → 0 < a' ∧ ¬ κ (g d (a' - 1)) < κ (g d pv)) → K [(0, SV sb r 0 n ver), (1, .int .i64 a'), (2, .int .i64 b'), (3, .int .i64 lm), (8, .bool wb), (9, .bool wp), (10, .int .i64 l), (11, .int .i64 pv), (87, .bool t)] H1 := by
      intro t ht
      refine hK0 _ _ ?_
      clear hK0 K
      refine L_split rfl (fun ht2 => ?_) (fun ht2 => ?_)
      · obtain ⟨hpos, hge⟩ := ht ht2
        have hmin : ∀ k, a' ≤ k → k < b' → κ (g d pv) ≤ κ (g d k) := fun k k1 k2 => Int.le_trans (Int.not_lt.1 hge) (hP hpos k k1 k2)
        refine L_reg [0, 2, 3, 8, 9, 13] (fun K hK0 => ?_)
        simp [okFn_low]
        refine partEq_ac' D κ r ver a' b' pv d n hdl H1 _ hCk hrow hdD (by omega) hpv.1 hpv.2 (by omega) (fun H2 m p p1 p2 m1 m2 m5 m3 m4 => ?_)
        simp
        apply hK0; clear hK0 K
        have hmin2 := m1.all (by omega) (p := fun x => κ (g d pv) ≤ κ x) hmin
        refine L_reg [0, 1, 2, 3, 8, 9] (fun K hK => ?_)
        simp
        apply hK; clear hK K
        refine L_exit ?_
        refine ⟨b' - p, [.int .i64 (p : Nat), .int .i64 b', .int .i64 lm, .bool wb, .bool wp], by omega, by simp, p, b', lm, wb, wp, m, rfl, by omega, by omega, hbb, hlm, hS.trans (m1.wide haa hbb), fun q1 q2 h1 h2 h3 h4 => ?_, fun hp0 k k1 k2 => ?_, rfl, m3, hK.trans m4⟩
        · by_cases e : a' ≤ q1 ∧ q2 < b'
          · have e1 := m2 q1 e.1 (by omega)
            exact Int.le_trans e1 (hmin2 q2 (by omega) e.2)
          · exact (hO.mix m1 (by omega) haa hbb) q1 q2 h1 h2 h3 e
        · exact Int.le_trans (m2 (p - 1) (by omega) (by omega)) (Int.le_of_lt (m5 k k1 k2))
      · clear ht
        refine L_reg [0, 1, 2, 3, 10, 14, 15] (fun K hK0 => ?_)
        simp [okFn_low]
        refine part_ac' D κ r ver a' b' pv d n hdl H1 _ hCk hrow hdD (by omega) hpv.1 hpv.2 (by omega) (fun H2 m p bb p1 p2 m1 m2 m5 m3 m4 => ?_)
        simp
        apply hK0; clear hK0 K
        have hml : m.length = n := by rw [m1.len, hdl]
        have hS2 := hS.trans (m1.wide haa hbb)
        have hO2 := hO.mix m1 (by omega) haa hbb
        have hP2 := hP.mix m1 (by omega)
        have hK3 := hK.trans m4
        have hr3 : r < H2.length := by have := hK3.1; omega
        clear hS hO hP hrow hK hdl hdD hCk m1 m4
        clear hpv ht2 d H1
        refine L_reg [0, 1, 2, 3, 9, 10, 14] (fun K hK => ?_)
        simp
        apply hK; clear hK K
        obtain ⟨ll, hll⟩ : ∃ x : Nat, (p : Int) - a' = x := ⟨p - a', by omega⟩
        obtain ⟨rl, hrl2⟩ : ∃ x : Nat, (b' : Int) - p = x := ⟨b' - p, by omega⟩
        have hq8 : ((l : Int)).tdiv 8 = ((l / 8 : Nat) : Int) := by rw [Int.tdiv_eq_ediv_of_nonneg (by omega)]; rfl
        obtain ⟨q8, hq80⟩ : ∃ q, q = l / 8 := ⟨_, rfl⟩
        rw [← hq80] at hq8
        refine L_reg [0, 1, 2, 3, 9, 10, 14, 16, 17] (fun K hK => ?_)
        simp [hll, hrl2, wrap_i64 (a := (ll : Int)) (by omega), wrap_i64 (a := (rl : Int)) (by omega)]
        apply hK; clear hK K
        refine L_reg [0, 1, 2, 3, 9, 14, 16, 17, 18] (fun K hK => ?_)
        simp [hq8, wrap_i64 (a := (q8 : Int)) (by omega)]
        apply hK; clear hK K
        refine L_reg [0, 1, 2, 3, 9, 14, 16, 17, 18, 113] (fun K hK => ?_)
        simp
        apply hK; clear hK K
        refine L_dec (ll < rl) (by simp) (fun hlr => ?_) (fun hlr => ?_)
        · refine L_reg [0, 1, 2, 3, 8, 9, 14] (fun K hK => ?_)
          simp
          apply hK; clear hK K
          refine L_reg [0, 2, 3, 8, 9, 14] (fun K hK0 => ?_)
          simp [okFn_low]
          refine ih a' p lm m H2 _ (by omega) (hC.keep hK3) m3 hr3 (hD.perm hS2.1) hml p1 (by omega) hlm (fun h0 k k1 k2 => hP2 h0 k k1 (by omega)) (fun H3 m' s1 s2 s3 s4 => ?_)
          simp
          apply hK0; clear hK0 K
          refine L_reg [0, 1, 2, 3, 8, 9] (fun K hK => ?_)
          simp [wrap_i64 (a := (p : Int) + 1) (by omega)]
          apply hK; clear hK K
          have hm5 := s1.all (by omega) (p := fun x => κ x ≤ κ (g m p)) m2
          have hpm : g m' p = g m p := s1.2 p (by omega)
          refine ⟨b' - (p + 1), [.int .i64 (p + 1 : Nat), .int .i64 b', .int .i64 lm, .bool (decide (q8 ≤ ll)), .bool bb], by omega, by simp, p + 1, b', lm, decide (q8 ≤ ll), bb, m', rfl, by omega, by omega, hbb, hlm, hS2.trans (s1.wide haa (by omega)), fun q1 q2 h1 h2 h3 h4 => ?_, fun hp0 k k1 k2 => ?_, rfl, s3, hK3.trans s4⟩
          · by_cases e : a' ≤ q1 ∧ q2 < b'
            · by_cases e2 : q2 < p
              · exact s2 q1 q2 e.1 h2 e2
              · by_cases e3 : q2 = p
                · subst e3; rw [hpm]; exact hm5 q1 e.1 (by omega)
                · have e4 : κ (g m p) ≤ κ (g m' q2) := by rw [s1.2 q2 (by omega)]; exact m5 q2 (by omega) e.2
                  by_cases e5 : q1 = p
                  · rw [e5, hpm]; exact e4
                  · exact Int.le_trans (hm5 q1 e.1 (by omega)) e4
            · exact (hO2.mix (s1.wide (Nat.le_refl _) (by omega)) (by omega) haa hbb) q1 q2 h1 h2 h3 e
          · rw [show p + 1 - 1 = p by omega, hpm, s1.2 k (by omega)]
            exact m5 k (by omega) k2
        · refine L_reg [0, 1, 2, 3, 8, 9, 14] (fun K hK => ?_)
          simp
          apply hK; clear hK K
          refine L_reg [0, 1, 3, 8, 9, 14] (fun K hK0 => ?_)
          simp [okFn_low, wrap_i64 (a := (p : Int) + 1) (by omega)]
          refine ih (p + 1) b' lm m H2 _ (by omega) (hC.keep hK3) m3 hr3 (hD.perm hS2.1) hml (by omega) (by omega) hlm (fun h0 k k1 k2 => by rw [show p + 1 - 1 = p by omega]; exact m5 k (by omega) k2) (fun H3 m' s1 s2 s3 s4 => ?_)
          simp
          apply hK0; clear hK0 K
          refine L_reg [0, 1, 2, 3, 8, 9] (fun K hK => ?_)
          simp
          apply hK; clear hK K
          have hm5 := s1.all (by omega) (p := fun x => κ (g m p) ≤ κ x) (fun k k1 k2 => m5 k (by omega) k2)
          have hpm : g m' p = g m p := s1.2 p (by omega)
          refine ⟨p - a', [.int .i64 a', .int .i64 (p : Nat), .int .i64 lm, .bool (decide (q8 ≤ rl)), .bool bb], by omega, by simp, a', p, lm, decide (q8 ≤ rl), bb, m', rfl, by omega, by omega, by omega, hlm, hS2.trans (s1.wide (by omega) hbb), fun q1 q2 h1 h2 h3 h4 => ?_, fun hp0 k k1 k2 => ?_, rfl, s3, hK3.trans s4⟩
          · by_cases e : a' ≤ q1 ∧ q2 < b'
            · by_cases e2 : p < q1
              · exact s2 q1 q2 (by omega) h2 e.2
              · by_cases e3 : q1 = p
                · subst e3; rw [hpm]; exact hm5 q2 (by omega) e.2
                · have e4 : κ (g m' q1) ≤ κ (g m p) := by rw [s1.2 q1 (by omega)]; exact m2 q1 e.1 (by omega)
                  by_cases e5 : q2 = p
                  · rw [e5, hpm]; exact e4
                  · exact Int.le_trans e4 (hm5 q2 (by omega) e.2)
            · exact (hO2.mix (s1.wide (by omega) (Nat.le_refl _)) (by omega) haa hbb) q1 q2 h1 h2 h3 e
          · rw [s1.2 k (by omega), s1.2 (a' - 1) (by omega)]
            exact hP2 hp0 k k1 (by omega)
    by_cases hpos : 0 < a'
    · obtain ⟨a0, ha0⟩ : ∃ a0 : Nat, (a' : Int) - 1 = a0 := ⟨a' - 1, by omega⟩
      have ha0n : a' - 1 = a0 := by omega
      have hx := hrow.ld (i := a0) (by omega)
      have hy := hrow.ld (i := pv) (by omega)
      have t1 : a0 < n := by omega
      have t2 : pv < n := by omega
      simp [okFn_low, hpos, ha0, t1, t2, hx, hy, wrap_i64 (a := (a0 : Int)) (by omega)]
      refine exC_mk (fun Q hQ => hCk.2 H1 (.refl _ _) _ _ (hdD a0 (by omega)) (hdD pv (by omega)) Q hQ) ?_
      simp [pickV]
      refine hK2 _ (fun ht => ⟨hpos, fun h => ?_⟩)
      rw [ha0n] at h
      have := cmpS_neg.2 h
      simp at ht
      omega
    · have ha0 : a' = 0 := by omega
      subst ha0
      simp [pickV]
      exact hK2 false (fun h => by cases h)
  cases wb <;> cases wp <;> simp [pickV] <;> exact hK2 _
end Go.Proofs.YtmlhekfkniibmaaDoor.Ord

/- slices.Sort of a part of a row; slices.Equal. -/
namespace Go.Proofs.YtmlhekfkniibmaaDoor
open Go Go.Proofs.YtmlhekfkniibmaaDoor.AX
variable {sb : Bool}
theorem isNaN_ac (a : Int) (H : AH) (Q : AV → AH → Prop) (h : Q (.bool false) H) : AC Tryd.prog 95 [.int .i64 a] H Q := by
  refine L_body 6 Tryd.func95 rfl rfl ?_
  refine L_reg [0] (fun K hK => ?_)
  simp
  apply hK; clear hK K
  refine L_reg [2] (fun K hK => ?_)
  simp
  apply hK; clear hK K
  exact L_ret ⟨.inr rfl, _, rfl, by simpa using h⟩
theorem Less_ac (a b : Int) (H : AH) (Q : AV → AH → Prop) (h : Q (.bool (decide (a < b))) H) : AC Tryd.prog 76 [.int .i64 a, .int .i64 b] H Q := by
  refine L_body 17 Tryd.func76 rfl rfl ?_
  refine L_reg [0, 1] (fun K hK => ?_)
  simp
  apply hK; clear hK K
  refine L_reg [4] (fun K hK => ?_)
  simp [okFn_low]
  refine isNaN_ac a _ _ ?_
  simp [pickV]
  apply hK; clear hK K
  exact L_ret ⟨.inr rfl, _, rfl, by simpa using h⟩
theorem lessO (r : Nat) (H : AH) : Ord.CmpO (fun _ => True) (fun x => x) r H := by
  refine ⟨trivial, fun H' _ x y _ _ Q h => Less_ac x y H' Q ?_⟩
  have : decide (Ord.cmpS x y < 0) = decide (x < y) := by rw [decide_eq_decide]; exact Ord.cmpS_neg
  rw [this] at h; exact h
set_option maxRecDepth 100000 in
theorem Sort_ac (r ver : Nat) (c : List Int) (n : Nat) (hn : c.length = n) (H : AH) (Q : AV → AH → Prop) (hr : Ord.Rw r ver H c) (hrl : r < H.length) (hl : n ≤ 127)
    (h : ∀ (H' : AH) (m : List Int), m.Perm c → Ord.Srt (fun x => x) 0 n m → Ord.Rw r ver H' m → KeepX r H H' → Q (.tuple []) H') : AC Tryd.prog 47 [SV sb r 0 n ver] H Q := by
  refine L_body 11 Tryd.func47 rfl rfl ?_
  refine L_reg [0, 2] (fun K hK => ?_)
  simp
  apply hK; clear hK K
  refine L_reg [] (fun K hK0 => ?_)
  simp [okFn_low, Ord.cvA n (by omega)]
  refine Ord.Len_ac n H _ (by omega) ?_
  simp [okFn_low]
  have h7 : Ord.lenN n ≤ 7 := by
    unfold Ord.lenN
    repeat' split
    all_goals first | decide | omega
  have := Ord.pdq_ac (sb := sb) (fun _ => True) (fun x => x) r ver n hl (n + 1) 0 n (Ord.lenN n) c H (fun v H' => K [] H') (by omega) (lessO r H) hr hrl (fun _ _ => trivial) hn (by omega) (Nat.le_refl _) (by omega) (fun h0 => by omega) (fun H2 m s1 s2 s3 s4 => ?_)
  · exact this
  apply hK0; clear hK0 K
  exact ⟨.inl rfl, _, rfl, h H2 m s1.1 s2 s3 s4⟩
theorem Equal_ac (b : Bool) (r ver off n : Nat) (l m : List Int) (v : AV) (H : AH) (Q : AV → AH → Prop) (hr : ∀ i, i < n → ld H r (off + i) ver = some (.int .i64 (g l i))) (hn : l.length = n) (hlen : n ≤ 1000000) (hv : Ls H v m) (h : Q (.bool (decide (l = m))) H) : AC Tryd.prog 48 [SV b r off n ver, v] H Q := by
  obtain ⟨r2, off2, ver2, sz2, full2, rfl, hv⟩ := hv
  refine L_body 26 Tryd.func48 rfl rfl ?_
  refine L_reg [0, 1] (fun K hK => ?_)
  simp
  apply hK; clear hK K
  refine L_reg [0, 1, 10] (fun K hK => ?_)
  simp
  apply hK; clear hK K
  by_cases hlm : n = m.length
  case neg =>
    refine L_true (by simp; omega) ?_
    refine L_reg [4] (fun K hK => ?_)
    simp
    apply hK; clear hK K
    have : l ≠ m := fun e => hlm (by rw [← hn, e])
    rw [decide_eq_false this] at h
    exact L_ret ⟨.inr rfl, _, rfl, h⟩
  refine L_false (by simp [hlm]) ?_
  refine L_reg [0, 1, 12, 13] (fun K hK => ?_)
  simp
  apply hK; clear hK K
  refine L_block (L_loopV [13] (fun k vs H' => ∃ (i : Nat), k = n - i ∧ i ≤ n ∧ (l.drop i = m.drop i → l = m) ∧ vs = [.int .i64 i] ∧ H' = H) _ [.int .i64 (0 : Nat)] rfl ⟨0, rfl, by omega, by simp, rfl, rfl⟩ ?_)
  rintro k _ _ ⟨i, rfl, hi, hs, rfl, rfl⟩
  refine L_reg [0, 1, 12, 13, 14] (fun K hK => ?_)
  simp
  apply hK; clear hK K
  refine L_dec (i < n) (by simp) (fun hlt => ?_) (fun hge => L_exit ?_)
  · have hld := hr i hlt
    obtain ⟨r3, rfl, rfl, hld2⟩ := hv i (by omega)
    have him : i < m.length := by omega
    rw [List.drop_eq_getElem_cons (by omega : i < l.length), List.drop_eq_getElem_cons him] at hs
    rw [g_lt (by omega)] at hld
    refine L_block ?_
    refine L_reg [0, 1, 5, 12, 13] (fun K hK => ?_)
    simp
    apply hK; clear hK K
    refine L_regT mixed [0, 1, 12, 13, 24] (by kernel_rfl) (fun K hK => ?_)
    simp [hlt, him, hld, hld2]
    apply hK; clear hK K
    by_cases he : l[i] = m[i]
    · refine L_false (by simp [he]) ?_
      rw [he] at hs
      refine L_reg [0, 1, 12, 13] (fun K hK => ?_)
      simp [wrap_i64 (a := (i : Int) + 1) (by omega)]
      apply hK; clear hK K
      exact ⟨n - (i + 1), [.int .i64 (i + 1 : Nat)], by omega, by simp, i + 1, rfl, by omega, fun e => hs (by rw [e]), rfl, rfl⟩
    · refine L_true (by simp [he]) ?_
      refine L_reg [4] (fun K hK => ?_)
      simp
      apply hK; clear hK K
      have : l ≠ m := fun e => he (by subst e; rfl)
      rw [decide_eq_false this] at h
      exact L_ret ⟨.inr rfl, _, rfl, h⟩
  · refine L_reg [4] (fun K hK => ?_)
    simp
    apply hK; clear hK K
    have : l = m := hs (by rw [List.drop_eq_nil_of_le (by omega), List.drop_eq_nil_of_le (by omega)])
    rw [decide_eq_true this] at h
    exact L_ret ⟨.inr rfl, _, rfl, h⟩
/-- Sorted lists with the same members. -/
theorem sorted_ext : ∀ {l m : List Int}, l.Pairwise (· < ·) → m.Pairwise (· < ·) → (∀ z, z ∈ l ↔ z ∈ m) → l = m
  | [], [], _, _, _ => rfl
  | [], y :: m, _, _, h => by have := (h y).2 (by simp); simp at this
  | x :: l, [], _, _, h => by have := (h x).1 (by simp); simp at this
  | x :: l, y :: m, hl, hm, h => by
    obtain ⟨a1, a2⟩ := List.pairwise_cons.1 hl
    obtain ⟨b1, b2⟩ := List.pairwise_cons.1 hm
    have hxy : x = y := by
      rcases List.mem_cons.1 ((h x).1 (by simp)) with e | e
      · exact e
      · rcases List.mem_cons.1 ((h y).2 (by simp)) with e2 | e2
        · exact e2.symm
        · have := b1 x e; have := a1 y e2; omega
    subst hxy
    have : l = m := sorted_ext a2 b2 fun z => by
      constructor
      · intro hz
        rcases List.mem_cons.1 ((h z).1 (List.mem_cons_of_mem _ hz)) with e | e
        · have := a1 z hz; omega
        · exact e
      · intro hz
        rcases List.mem_cons.1 ((h z).2 (List.mem_cons_of_mem _ hz)) with e | e
        · have := b1 z hz; omega
        · exact e
    rw [this]
theorem perm_of_sub : ∀ {l m : List Int}, l.Nodup → (∀ x ∈ l, x ∈ m) → m.length ≤ l.length → l.Perm m
  | [], m, _, _, h => by
    have : m = [] := List.eq_nil_of_length_eq_zero (by simpa using h)
    rw [this]
  | x :: l, m, hd, hs, h => by
    obtain ⟨h1, h2⟩ := List.nodup_cons.1 hd
    have hx := hs x (by simp)
    have hp : (x :: m.erase x).Perm m := (List.perm_cons_erase hx).symm
    have hl := hp.length_eq
    refine (List.Perm.cons x (perm_of_sub h2 (fun y hy => ?_) (by simp at hl h; omega))).trans hp
    have hne : y ≠ x := fun e => h1 (by rw [← e]; exact hy)
    exact (List.mem_erase_of_ne hne).2 (hs y (by simp [hy]))
theorem ordS_perm (k : Nat) : ∀ (m : Nat) (l : List Int), l.length = m → (ordS k m l).Perm l
  | 0, l, h => by rw [List.eq_nil_of_length_eq_zero h]; exact .refl _
  | m + 1, l, h => by
    have hlt : (k - 1) % (m + 1) < l.length := by rw [h]; exact Nat.mod_lt _ (by omega)
    simp only [ordS]
    exact (List.Perm.cons _ (ordS_perm k m _ (by rw [rot_len hlt]; omega))).trans (rot_perm hlt)
theorem orderS_perm (n k : Nat) : (orderS n k).Perm (allS n) := ordS_perm k n _ (allS_len n)
end Go.Proofs.YtmlhekfkniibmaaDoor

/- The smallest count that fits. -/
namespace Go.Proofs.YtmlhekfkniibmaaDoor
open Go Go.Proofs.YtmlhekfkniibmaaDoor.AX

/-- A function that says whether a count fits, as long as what was there stays. -/
def FitsC (f : FuncId) (caps : List AV) (P : Nat → Prop) [DecidablePred P] (H : AH) : Prop :=
  okFn Tryd.prog f = true ∧ ∀ k H', 1 ≤ k → k ≤ 1000 → Ext H H' → ∀ Q : AV → AH → Prop, (∀ H'', Ext H' H'' → Q (.bool (decide (P k))) H'') → AC Tryd.prog f ([] ++ [.int .i64 k] ++ caps) H' Q
/-- The smallest count up to 1000 with P, or none. -/
def minQ (P : Nat → Prop) (Q : AV → AH → Prop) (H : AH) : Prop :=
  (∀ k : Nat, 1 ≤ k → k ≤ 1000 → P k → (∀ j, 1 ≤ j → j < k → ¬ P j) → Q (.tuple [.int .i64 k, .int .i64 0]) H) ∧ ((∀ j, 1 ≤ j → j ≤ 1000 → ¬ P j) → Q (.tuple [.int .i64 0, .int .i64 12]) H)
theorem smallest_ac (f : FuncId) (caps : List AV) (P : Nat → Prop) [DecidablePred P] (H : AH) (Q : AV → AH → Prop) (hF : FitsC f caps P H) (h : ∀ H', Ext H H' → minQ P Q H') : AC Tryd.prog 32 [.func (.func f) [] caps] H Q := by
  refine L_body 16 Tryd.func32 rfl rfl ?_
  refine L_reg [0] (fun K hK => ?_)
  simp
  apply hK; clear hK K
  refine L_reg [0, 6] (fun K hK => ?_)
  simp
  apply hK; clear hK K
  refine L_block (L_loopV [6] (fun m vs H' => ∃ i : Nat, m = 1000 - i ∧ i ≤ 1000 ∧ (∀ j, 1 ≤ j → j ≤ i → ¬ P j) ∧ vs = [.int .i64 i] ∧ Ext H H') _ [.int .i64 0] rfl ⟨0, rfl, by omega, fun j h1 h2 => by omega, rfl, .refl _⟩ ?_)
  rintro m _ H1 ⟨i, rfl, hi, hno, rfl, hE⟩
  refine L_reg [0, 6, 7] (fun K hK => ?_)
  simp
  apply hK; clear hK K
  refine L_dec (i < 1000) (by simp; omega) (fun hlt => ?_) (fun hge => L_exit ?_)
  · refine L_block ?_
    obtain ⟨k, hk⟩ : ∃ k : Nat, k = i + 1 := ⟨_, rfl⟩
    have hki : (i : Int) + 1 = (k : Int) := by omega
    refine L_reg [0, 4, 6] (fun K hK => ?_)
    simp
    apply hK; clear hK K
    refine L_reg [0, 5, 6] (fun K hK => ?_)
    simp [hki, wrap_i64 (a := (k : Int)) (by omega)]
    apply hK; clear hK K
    refine L_reg [0, 5, 6, 13] (fun K hK => ?_)
    simp [hF.1]
    refine hF.2 k H1 (by omega) (by omega) hE _ (fun H2 E2 => ?_)
    simp
    apply hK; clear hK K
    by_cases hP : P k
    · refine L_true (by simp [hP]) ?_
      refine L_reg [2, 3] (fun K hK => ?_)
      simp
      apply hK; clear hK K
      exact L_ret ⟨.inr rfl, _, rfl, (h H2 (hE.trans E2)).1 k (by omega) (by omega) hP (fun j h1 h2 => hno j h1 (by omega))⟩
    · refine L_false (by simp [hP]) ?_
      refine L_reg [0, 6] (fun K hK => ?_)
      simp [hki, wrap_i64 (a := (k : Int)) (by omega)]
      apply hK; clear hK K
      refine ⟨1000 - k, [.int .i64 (k : Nat)], by omega, rfl, k, rfl, by omega, fun j h1 h2 => ?_, rfl, hE.trans E2⟩
      by_cases e : j = k
      · rw [e]; exact hP
      · exact hno j h1 (by omega)
  · refine L_reg [2, 3] (fun K hK => ?_)
    simp
    apply hK; clear hK K
    exact L_ret ⟨.inr rfl, _, rfl, (h H1 hE).2 (fun j h1 h2 => hno j h1 (by omega))⟩
/-- Who stays last is x. -/
def LastIs (n : Nat) (x : Int) (k : Nat) : Prop := g (orderS n k) (n - 1) = x
instance (n : Nat) (x : Int) : DecidablePred (LastIs n x) := fun k => by unfold LastIs; infer_instance
/-- What Smallest is asked. -/
def smallQ (n x : Int) (H : AH) (Q : AV → AH → Prop) : Prop :=
  ((1 ≤ n ∧ n ≤ 20) ∧ (0 ≤ x ∧ x < n) → minQ (LastIs n.toNat x) Q H) ∧ ((1 ≤ n ∧ n ≤ 20) ∧ ¬ (0 ≤ x ∧ x < n) → Q (.tuple [.int .i64 0, .int .i64 2]) H) ∧ (¬ (1 ≤ n ∧ n ≤ 20) → Q (.tuple [.int .i64 0, .int .i64 1]) H)
end Go.Proofs.YtmlhekfkniibmaaDoor

/- Some go first: the smallest count. -/
namespace Go.Proofs.YtmlhekfkniibmaaDoor
open Go Go.Proofs.YtmlhekfkniibmaaDoor.AX

def homI (n : Int) (l : List Int) : Nat → Nat → Int
  | 0, _ => 0
  | m + 1, i => if 0 ≤ g l i ∧ g l i < n then (if 0 < i ∧ g l i ≤ g l (i - 1) then 7 else homI n l m (i + 1)) else 2
def homeE (n : Int) (l : List Int) : Int := if 1 ≤ n ∧ n ≤ 20 then homI n l l.length 0 else 1
theorem homI_zero {n : Int} {l : List Int} : ∀ {m i : Nat}, homI n l m i = 0 → ∀ j, i ≤ j → j < i + m → (0 ≤ g l j ∧ g l j < n) ∧ (0 < j → g l (j - 1) < g l j)
  | 0, i, _, j, h1, h2 => by omega
  | m + 1, i, h, j, h1, h2 => by
    simp only [homI] at h
    split at h
    · rename_i h3
      split at h
      · cases h
      · rename_i h4
        rcases Nat.lt_or_ge i j with e | e
        · exact homI_zero h j (by omega) (by omega)
        · have : j = i := by omega
          subst this
          exact ⟨h3, fun h5 => by omega⟩
    · cases h
theorem homeE_zero {n : Int} {l : List Int} (h : homeE n l = 0) : (1 ≤ n ∧ n ≤ 20) ∧ (∀ x ∈ l, 0 ≤ x ∧ x < n) ∧ l.Pairwise (· < ·) ∧ (l.length : Int) ≤ n := by
  unfold homeE at h
  split at h
  · rename_i h1
    have h2 := homI_zero h
    have h3 : ∀ d i : Nat, i + d < l.length → g l i + d ≤ g l (i + d) := by
      intro d
      induction d with
      | zero => intro i hi; simp
      | succ d ih =>
        intro i hi
        have h4 := ih i (by omega)
        have h5 := (h2 (i + (d + 1)) (by omega) (by omega)).2 (by omega)
        rw [show i + (d + 1) - 1 = i + d by omega] at h5
        omega
    refine ⟨h1, fun x hx => ?_, ?_, ?_⟩
    · obtain ⟨i, hi, rfl⟩ := List.mem_iff_getElem.1 hx
      have := (h2 i (by omega) (by omega)).1
      rwa [g_lt hi] at this
    · rw [List.pairwise_iff_getElem]
      intro i j hi hj hij
      have := h3 (j - i) i (by omega)
      rw [show i + (j - i) = j by omega, g_lt hi, g_lt hj] at this
      omega
    · rcases Nat.eq_zero_or_pos l.length with e | e
      · omega
      · have h6 := h3 (l.length - 1) 0 (by omega)
        have h7 := (h2 (l.length - 1) (by omega) (by omega)).1
        have h8 := (h2 0 (by omega) (by omega)).1
        rw [Nat.zero_add] at h6
        omega
  · cases h
set_option maxHeartbeats 1000000 in
theorem checkHome_ac (n : Int) (v : AV) (l : List Int) (H : AH) (Q : AV → AH → Prop) (hv : Ls H v l) (hlen : l.length ≤ 1000000) (h : Q (.int .i64 (homeE n l)) H) : AC Tryd.prog 31 [.int .i64 n, v] H Q := by
  obtain ⟨r, off, ver, sz, full, rfl, hld⟩ := id hv
  refine L_body 33 Tryd.func31 rfl rfl ?_
  refine L_reg [0, 1] (fun K hK => ?_)
  simp
  apply hK; clear hK K
  unfold homeE at h
  by_cases h1 : 1 ≤ n ∧ n ≤ 20
  · rw [if_pos h1] at h
    refine L_reg [0, 1, 9] (fun K hK => ?_)
    simp [okFn_low]
    refine isBench_ac _ _ _ ?_
    simp [decide_eq_true h1]
    apply hK; clear hK K
    refine L_false (by simp) ?_
    refine L_reg [0, 1, 10, 11, 12] (fun K hK => ?_)
    simp
    apply hK; clear hK K
    refine L_block (L_loopV [12] (fun m vs H' => ∃ i : Nat, m = l.length - i ∧ i ≤ l.length ∧ homI n l (l.length - i) i = homI n l l.length 0 ∧ vs = [.int .i64 i] ∧ H = H') _ [.int .i64 0] rfl ⟨0, rfl, by omega, rfl, rfl, rfl⟩ ?_)
    rintro m _ _ ⟨i, rfl, hi, hc, rfl, rfl⟩
    refine L_reg [0, 1, 10, 11, 12, 13] (fun K hK => ?_)
    simp
    apply hK; clear hK K
    refine L_dec (i < l.length) (by simp) (fun hlt => ?_) (fun hge => L_exit ?_)
    · refine L_block ?_
      obtain ⟨r', rfl, rfl, hx⟩ := hld i hlt
      rw [← g_lt hlt] at hx
      obtain ⟨m, hm⟩ : ∃ m, l.length - i = m + 1 := ⟨l.length - i - 1, by omega⟩
      rw [hm] at hc
      simp only [homI] at hc
      refine L_reg [0, 1, 5, 6, 10, 11, 12] (fun K hK => ?_)
      simp [hx, hlt]
      apply hK; clear hK K
      by_cases h2 : 0 ≤ g l i ∧ g l i < n
      · rw [if_pos h2] at hc
        refine L_reg [0, 1, 5, 6, 10, 11, 12, 20] (fun K hK => ?_)
        simp [okFn_low]
        refine isRoller_ac _ _ _ _ ?_
        simp [decide_eq_true h2]
        apply hK; clear hK K
        refine L_false (by simp) ?_
        by_cases h0 : 0 < i
        · obtain ⟨j, rfl⟩ : ∃ j, i = j + 1 := ⟨i - 1, by omega⟩
          obtain ⟨r2, e2, -, hy⟩ := hld j (by omega)
          obtain rfl := Option.some.inj e2
          rw [← g_lt (by omega)] at hy
          have hji : (((j + 1 : Nat) : Int)) - 1 = (j : Int) := by omega
          have hj0 : 0 < ((j + 1 : Nat) : Int) := by omega
          have hjl : j < l.length := by omega
          rw [Nat.add_sub_cancel] at hc
          have hwj : IntKind.i64.wrap (j : Int) = (j : Int) := wrap_i64 (by omega)
          have hpos : (0 : Int) < (j : Int) + 1 := by omega
          refine L_reg [0, 1, 10, 11, 12, 31] (fun K hK => ?_)
          simp [pickV, hpos, hwj, hjl, hy]
          apply hK; clear hK K
          by_cases h3 : g l (j + 1) ≤ g l j
          · rw [if_pos ⟨h0, h3⟩] at hc
            refine L_true (by simp [h3]) ?_
            rw [← hc] at h
            refine L_reg [4] (fun K hK => ?_)
            simp
            apply hK; clear hK K
            exact L_ret ⟨.inr rfl, _, rfl, h⟩
          · rw [if_neg (fun e => h3 e.2)] at hc
            refine L_false (by simp; omega) ?_
            refine L_reg [0, 1, 10, 11, 12] (fun K hK => ?_)
            simp [wrap_i64 (a := (j : Int) + 1 + 1) (by omega)]
            apply hK; clear hK K
            exact ⟨l.length - (j + 1 + 1), [.int .i64 (j + 1 + 1 : Nat)], by omega, by simp, j + 1 + 1, rfl, by omega, by rw [show l.length - (j + 1 + 1) = m by omega]; exact hc, rfl, rfl⟩
        · have hi0 : i = 0 := by omega
          subst hi0
          rw [if_neg (fun e => h0 e.1)] at hc
          refine L_reg [0, 1, 10, 11, 12, 31] (fun K hK => ?_)
          simp [pickV]
          apply hK; clear hK K
          refine L_false (by simp) ?_
          refine L_reg [0, 1, 10, 11, 12] (fun K hK => ?_)
          simp [wrap_i64 (a := (1 : Int)) (by omega)]
          apply hK; clear hK K
          exact ⟨l.length - 1, [.int .i64 (1 : Nat)], by omega, by simp, 1, rfl, by omega, by rw [show l.length - 1 = m by omega]; exact hc, rfl, rfl⟩
      · rw [if_neg h2] at hc
        refine L_reg [0, 1, 5, 6, 10, 11, 12, 20] (fun K hK => ?_)
        simp [okFn_low]
        refine isRoller_ac _ _ _ _ ?_
        simp [decide_eq_false h2]
        apply hK; clear hK K
        refine L_true (by simp) ?_
        rw [← hc] at h
        refine L_reg [4] (fun K hK => ?_)
        simp
        apply hK; clear hK K
        exact L_ret ⟨.inr rfl, _, rfl, h⟩
    · have hi' : l.length - i = 0 := by omega
      rw [hi'] at hc
      simp only [homI] at hc
      rw [← hc] at h
      refine L_reg [4] (fun K hK => ?_)
      simp
      apply hK; clear hK K
      exact L_ret ⟨.inr rfl, _, rfl, h⟩
  · rw [if_neg h1] at h
    refine L_reg [0, 1, 9] (fun K hK => ?_)
    simp [okFn_low]
    refine isBench_ac _ _ _ ?_
    simp [decide_eq_false h1]
    apply hK; clear hK K
    refine L_true (by simp) ?_
    refine L_reg [4] (fun K hK => ?_)
    simp
    apply hK; clear hK K
    exact L_ret ⟨.inr rfl, _, rfl, h⟩
/-- The first ones of the order are all in a list. -/
def FirstIs (n : Nat) (l : List Int) (k : Nat) : Prop := ∀ x ∈ (orderS n k).take l.length, x ∈ l
instance (n : Nat) (l : List Int) : DecidablePred (FirstIs n l) := fun k => by unfold FirstIs; infer_instance
theorem first_iff {n k : Nat} {l m : List Int} (hl : l.Pairwise (· < ·)) (hlen : l.length ≤ n) (hm : m.Perm ((orderS n k).take l.length)) (hs : Ord.Srt (fun x => x) 0 m.length m) : m = l ↔ FirstIs n l k := by
  have hnd : (orderS n k).Nodup := (orderS_perm n k).nodup_iff.2 (allS_nodup n)
  have hnt : ((orderS n k).take l.length).Nodup := List.Pairwise.sublist (List.take_sublist _ _) hnd
  have hmd := hm.nodup_iff.2 hnt
  constructor
  · intro e x hx
    rw [← e]; exact hm.mem_iff.2 hx
  · intro hF
    have hp : ((orderS n k).take l.length).Perm l := perm_of_sub hnt hF (by simp [orderS_len]; omega)
    have hml := hm.trans hp
    refine sorted_ext ?_ hl (fun z => hml.mem_iff)
    rw [List.pairwise_iff_getElem]
    intro i j hi hj hij
    have h1 := hs i j (by omega) hij hj
    have h2 := (List.pairwise_iff_getElem.1 hmd) i j hi hj hij
    simp only [g_lt hi, g_lt hj] at h1
    omega
set_option maxHeartbeats 1000000 in
theorem goFirst_ac (n k : Nat) (v : AV) (l : List Int) (H : AH) (Q : AV → AH → Prop) (h0 : 1 ≤ n) (h1 : n ≤ 20) (h3 : 1 ≤ k) (h4 : k ≤ 1000000) (hv : Ls H v l) (hl : l.Pairwise (· < ·)) (hlen : l.length ≤ n) (h : ∀ H', Ext H H' → Q (.bool (decide (FirstIs n l k))) H') : AC Tryd.prog 34 [.int .i64 n, .int .i64 k, v] H Q := by
  obtain ⟨r0, off0, ver0, sz0, full0, hv0, -⟩ := id hv
  refine L_body 21 Tryd.func34 rfl rfl ?_
  have hol := orderS_len n k
  refine L_reg [0, 1, 2] (fun K hK => ?_)
  simp
  apply hK; clear hK K
  refine L_reg [2, 7] (fun K hK => ?_)
  simp [okFn_low]
  refine order_ac n k (by omega) h3 (by omega) _ _ (fun w H1 o1 E1 => ?_)
  have hv1 := hv.ext E1
  rcases o1 with ⟨e, -⟩ | ⟨r, ver, st, hr, rfl, hrow⟩
  · have := congrArg List.length e; simp [hol] at this; omega
  have s1 := sliceS22 (full := false) (r := r) (off := 0) (len := n) (ver := ver) hlen
  simp [hv0, hol, s1]
  apply hK; clear hK K
  have hrl : r < H1.length := (List.getElem?_eq_some_iff.1 hrow).1
  have hrT : Ord.Rw r ver H1 ((orderS n k).take l.length) := ⟨st, ((orderS n k).drop l.length).map (.int .i64), by rw [← List.map_append, List.take_append_drop]; exact hrow⟩
  refine L_reg [2, 7] (fun K hK => ?_)
  simp [okFn_low]
  refine Sort_ac (sb := true) r ver _ l.length (by simp [hol]; omega) _ _ hrT hrl (by omega) (fun H2 m m1 m2 m3 m4 => ?_)
  simp
  apply hK; clear hK K
  have hE2 : Ext H H2 := m4.new E1 hr
  have hml : m.length = l.length := by rw [m1.length_eq]; simp [hol]; omega
  have hv2 : Ls H2 (.slice r0 off0 l.length ver0 sz0 full0) l := by rw [← hv0]; exact hv.ext hE2
  rw [← hml] at m2
  have hiff := first_iff hl hlen m1 m2
  have hd : decide (m = l) = decide (FirstIs n l k) := decide_eq_decide.2 hiff
  refine L_reg [6] (fun K hK => ?_)
  simp [okFn_low]
  refine Equal_ac true r ver 0 l.length m l _ _ _ (fun i hi => by rw [Nat.zero_add]; exact m3.ld (by omega)) hml (by omega) hv2 ?_
  simp
  apply hK; clear hK K
  exact L_ret ⟨.inr rfl, _, rfl, by rw [hd]; exact h _ hE2⟩
theorem goFirst_q (n k : Nat) (v : AV) (l : List Int) (H : AH) (Q : AV → AH → Prop) (h0 : 1 ≤ n) (h1 : n ≤ 20) (h3 : 1 ≤ k) (h4 : k ≤ 1000000) (hv : Ls H v l) (hl : l.Pairwise (· < ·)) (hlen : l.length ≤ n) (h : Q (.bool (decide (FirstIs n l k))) H) : AC Tryd.prog 34 [.int .i64 n, .int .i64 k, v] H Q :=
  AC.quiet (belB_bool _ _ _) (fun Q h => goFirst_ac n k v l H Q h0 h1 h3 h4 hv hl hlen h) Q h
theorem fitsF_ac (n : Nat) (v : AV) (l : List Int) (p q s t : Nat) (h0 : 1 ≤ n) (h1 : n ≤ 20) (hl : l.Pairwise (· < ·)) (hlen : l.length ≤ n) (H : AH) (hv : Ls H v l) (hp : H[p]? = some (.row [.int .i64 n] 0 s false)) (hq : H[q]? = some (.row [v] 0 t false)) : FitsC 33 [.ptr p 0 0, .ptr q 0 0] (FirstIs n l) H := by
  refine ⟨okFn_low (by omega) (by omega), fun k H1 k1 k2 hE Q hQ => ?_⟩
  obtain ⟨r0, off0, ver0, sz0, full0, rfl, -⟩ := id hv
  have l1 : ld H1 p 0 0 = some (.int .i64 n) := by rw [ld_row (hE.row hp)]; rfl
  have l2 : ld H1 q 0 0 = some (.slice r0 off0 l.length ver0 sz0 full0) := by rw [ld_row (hE.row hq)]; rfl
  refine L_body 9 Tryd.func33 rfl rfl ?_
  refine L_reg [0, 1, 2] (fun K hK => ?_)
  simp
  apply hK; clear hK K
  refine L_reg [4] (fun K hK => ?_)
  simp [okFn_low, l1, l2]
  refine goFirst_q n k _ l _ _ h0 h1 k1 (by omega) (hv.ext hE) hl hlen ?_
  simp
  apply hK; clear hK K
  exact L_ret ⟨.inr rfl, _, rfl, hQ _ (.refl _)⟩
/-- What First is asked. -/
def firstQ (n : Int) (l : List Int) (H : AH) (Q : AV → AH → Prop) : Prop :=
  (homeE n l = 0 → minQ (FirstIs n.toNat l) Q H) ∧ (homeE n l ≠ 0 → Q (.tuple [.int .i64 0, .int .i64 (homeE n l)]) H)
theorem First_ac (n : Int) (v : AV) (l : List Int) (H : AH) (Q : AV → AH → Prop) (hv : Ls H v l) (hlen : l.length ≤ 1000000) (h : ∀ H', Ext H H' → firstQ n l H' Q) : AC Tryd.prog 13 [.int .i64 n, v] H Q := by
  obtain ⟨r0, off0, ver0, sz0, full0, rfl, -⟩ := id hv
  refine L_body 17 Tryd.func13 rfl rfl ?_
  refine L_reg [2, 3] (fun K hK => ?_)
  simp [AV.isU, acells]
  apply hK; clear hK K
  have hE0 : Ext H (H ++ [AObj.row [.int .i64 n] 0 0 false, AObj.row [.slice r0 off0 l.length ver0 sz0 full0] 0 0 false]) := .push _ _
  have hp : (H ++ [AObj.row [.int .i64 n] 0 0 false, AObj.row [.slice r0 off0 l.length ver0 sz0 full0] 0 0 false])[H.length]? = some (.row [.int .i64 n] 0 0 false) := by simp
  have hq : (H ++ [AObj.row [.int .i64 n] 0 0 false, AObj.row [.slice r0 off0 l.length ver0 sz0 full0] 0 0 false])[H.length + 1]? = some (.row [.slice r0 off0 l.length ver0 sz0 full0] 0 0 false) := by simp
  generalize H ++ [AObj.row [.int .i64 n] 0 0 false, AObj.row [.slice r0 off0 l.length ver0 sz0 full0] 0 0 false] = H1 at hE0 hp hq ⊢
  have l1 : ld H1 H.length 0 0 = some (.int .i64 n) := by rw [ld_row hp]; rfl
  have l2 : ld H1 (H.length + 1) 0 0 = some (.slice r0 off0 l.length ver0 sz0 full0) := by rw [ld_row hq]; rfl
  have hv1 := hv.ext hE0
  refine L_reg [2, 3, 6] (fun K hK => ?_)
  simp [okFn_low, l1, l2]
  refine checkHome_ac n _ l _ _ hv1 hlen ?_
  simp
  apply hK; clear hK K
  refine L_reg [2, 3, 6, 11] (fun K hK => ?_)
  simp
  apply hK; clear hK K
  by_cases h1 : homeE n l = 0
  · refine L_false (by simp [h1]) ?_
    obtain ⟨b1, -, b3, b4⟩ := homeE_zero h1
    obtain ⟨n, rfl⟩ : ∃ y : Nat, n = y := ⟨n.toNat, by omega⟩
    refine L_reg [4, 5] (fun K hK => ?_)
    simp [okFn_low]
    refine smallest_ac 33 _ (FirstIs n l) _ _ (fitsF_ac n _ l _ _ 0 0 (by omega) (by omega) b3 (by omega) H1 hv1 hp hq) (fun H2 E2 => ?_)
    obtain ⟨b1, -⟩ := h H2 (hE0.trans E2)
    obtain ⟨c1, c2⟩ := b1 h1
    simp only [Int.toNat_natCast] at c1 c2
    refine ⟨fun k k1 k2 k3 k4 => ?_, fun hno => ?_⟩
    · simp
      apply hK; clear hK K
      exact L_ret ⟨.inr rfl, _, rfl, c1 k k1 k2 k3 k4⟩
    · simp
      apply hK; clear hK K
      exact L_ret ⟨.inr rfl, _, rfl, c2 hno⟩
  · refine L_true (by simp [h1]) ?_
    refine L_reg [4, 5] (fun K hK => ?_)
    simp
    apply hK; clear hK K
    exact L_ret ⟨.inr rfl, _, rfl, (h H1 hE0).2 h1⟩
end Go.Proofs.YtmlhekfkniibmaaDoor

/- What a blend lacks. -/
namespace Go.Proofs.YtmlhekfkniibmaaDoor
open Go Go.Proofs.YtmlhekfkniibmaaDoor.AX

def ixS (p : Int → Bool) : List Int → Nat → Int
  | [], _ => -1
  | y :: l, i => if p y then (i : Int) else ixS p l (i + 1)
theorem ixS_drop (p : Int → Bool) {l : List Int} {i : Nat} (hi : i < l.length) : ixS p (l.drop i) i = if p l[i] then (i : Int) else ixS p (l.drop (i + 1)) (i + 1) := by
  rw [List.drop_eq_getElem_cons hi]; rfl
theorem ixS_ge (p : Int → Bool) : ∀ (l : List Int) (i : Nat), (0 ≤ ixS p l i) ↔ ∃ x ∈ l, p x = true
  | [], i => by simp [ixS]
  | y :: l, i => by
    simp only [ixS]
    split
    · rename_i h; exact ⟨fun _ => ⟨y, by simp, h⟩, fun _ => by omega⟩
    · rename_i h
      rw [ixS_ge p l (i + 1)]
      constructor
      · rintro ⟨x, hx, hp⟩; exact ⟨x, by simp [hx], hp⟩
      · rintro ⟨x, hx, hp⟩
        rcases List.mem_cons.1 hx with rfl | hx
        · exact absurd hp h
        · exact ⟨x, hx, hp⟩
theorem IndexL_ac (v : AV) (l : List Int) (x : Int) (H : AH) (Q : AV → AH → Prop) (hl : l.length ≤ 1000000) (hv : Ls H v l) (h : Q (.int .i64 (ixS (fun y => decide (x = y)) l 0)) H) : AC Tryd.prog 21 [v, .int .i64 x] H Q := by
  obtain ⟨r, off, ver, sz, full, rfl, hld⟩ := hv
  refine L_body 19 Tryd.func21 rfl rfl ?_
  refine L_reg [0, 1] (fun K hK => ?_)
  simp
  apply hK; clear hK K
  refine L_reg [0, 1, 7, 8] (fun K hK => ?_)
  simp
  apply hK; clear hK K
  refine L_block (L_loopV [8] (fun k vs H' => ∃ i : Nat, k = l.length - i ∧ i ≤ l.length ∧ ixS (fun y => decide (x = y)) l 0 = ixS (fun y => decide (x = y)) (l.drop i) i ∧ vs = [.int .i64 i] ∧ H = H') _ [.int .i64 (0 : Nat)] rfl ⟨0, rfl, by omega, rfl, rfl, rfl⟩ ?_)
  rintro k _ _ ⟨i, rfl, hi, hx, rfl, rfl⟩
  refine L_reg [0, 1, 7, 8, 9] (fun K hK => ?_)
  simp
  apply hK; clear hK K
  refine L_dec (i < l.length) (by simp) (fun hlt => ?_) (fun hge => L_exit ?_)
  · obtain ⟨r', rfl, rfl, hrd⟩ := hld i hlt
    rw [ixS_drop _ hlt] at hx
    refine L_block ?_
    refine L_reg [0, 1, 5, 7, 8] (fun K hK => ?_)
    simp
    apply hK; clear hK K
    refine L_reg [0, 1, 5, 7, 8, 16] (fun K hK => ?_)
    simp [hlt, hrd]
    apply hK; clear hK K
    refine L_dec (x = l[i]) rfl (fun he => ?_) (fun he => ?_)
    · rw [if_pos (by simpa using he)] at hx
      refine L_reg [4] (fun K hK => ?_)
      simp
      apply hK; clear hK K
      exact L_ret ⟨.inr rfl, _, rfl, by rw [hx] at h; exact h⟩
    · rw [if_neg (by simpa using he)] at hx
      refine L_reg [0, 1, 7, 8] (fun K hK => ?_)
      simp [wrap_i64 (a := (i : Int) + 1) (by omega)]
      apply hK; clear hK K
      exact ⟨l.length - (i + 1), [.int .i64 (i + 1 : Nat)], by omega, by simp, i + 1, rfl, by omega, hx, rfl, rfl⟩
  · have : i = l.length := by omega
    subst this
    rw [List.drop_length] at hx
    refine L_reg [4] (fun K hK => ?_)
    simp
    apply hK; clear hK K
    exact L_ret ⟨.inr rfl, _, rfl, by rw [hx] at h; exact h⟩
theorem ContainsL_ac (v : AV) (l : List Int) (x : Int) (H : AH) (Q : AV → AH → Prop) (hl : l.length ≤ 1000000) (hv : Ls H v l) (h : Q (.bool (decide (x ∈ l))) H) : AC Tryd.prog 61 [v, .int .i64 x] H Q := by
  refine L_body 9 Tryd.func61 rfl rfl ?_
  refine L_reg [0, 1] (fun K hK => ?_)
  simp
  apply hK; clear hK K
  refine L_reg [4] (fun K hK => ?_)
  simp [okFn_low]
  refine IndexL_ac v l x _ _ hl hv ?_
  simp
  apply hK; clear hK K
  have he : decide (0 ≤ ixS (fun y => decide (x = y)) l 0) = decide (x ∈ l) := by
    rw [Bool.eq_iff_iff, decide_eq_true_iff, decide_eq_true_iff, ixS_ge]
    simp
  exact L_ret ⟨.inr rfl, _, rfl, by rw [he]; exact h⟩
theorem lack1_ac (x : Int) (q : Nat) (s : Nat) (ov : AV) (o : List Int) (H : AH) (Q : AV → AH → Prop) (ho : o.length ≤ 1000000) (hq : H[q]? = some (.row [ov] 0 s false)) (hone : ov.one = true) (hv : Ls H ov o) (h : Q (.bool (decide (x ∈ o))) H) : AC Tryd.prog 60 [.int .i64 x, .ptr q 0 0] H Q := by
  have e : ld H q 0 0 = some ov := by
    rw [ld_row hq]
    cases ov <;> first | rfl | (simp [AV.one] at hone)
  refine L_body 7 Tryd.func60 rfl rfl ?_
  refine L_reg [0, 1] (fun K hK => ?_)
  simp
  apply hK; clear hK K
  refine L_reg [3] (fun K hK => ?_)
  simp [okFn_low, e]
  refine ContainsL_ac ov o x _ _ ho hv ?_
  simp
  apply hK; clear hK K
  exact L_ret ⟨.inr rfl, _, rfl, h⟩

set_option maxRecDepth 100000 in
theorem IndexFunc_ac (v : AV) (l : List Int) (q s : Nat) (ov : AV) (o : List Int) (H : AH) (Q : AV → AH → Prop) (hl : l.length ≤ 1000000) (hv : Ls H v l) (ho : o.length ≤ 1000000) (hq : H[q]? = some (.row [ov] 0 s false)) (hone : ov.one = true) (hov : Ls H ov o)
    (h : Q (.int .i64 (ixS (fun y => decide (y ∈ o)) l 0)) H) : AC Tryd.prog 81 [v, .func (.func 60) [] [.ptr q 0 0]] H Q := by
  obtain ⟨r, off, ver, sz, full, rfl, hld⟩ := hv
  refine L_body 19 Tryd.func81 rfl rfl ?_
  refine L_reg [0, 1] (fun K hK => ?_)
  simp
  apply hK; clear hK K
  refine L_reg [0, 1, 7, 8] (fun K hK => ?_)
  simp
  apply hK; clear hK K
  refine L_block (L_loopV [8] (fun k vs H' => ∃ i : Nat, k = l.length - i ∧ i ≤ l.length ∧ ixS (fun y => decide (y ∈ o)) l 0 = ixS (fun y => decide (y ∈ o)) (l.drop i) i ∧ vs = [.int .i64 i] ∧ H = H') _ [.int .i64 (0 : Nat)] rfl ⟨0, rfl, by omega, rfl, rfl, rfl⟩ ?_)
  rintro k _ _ ⟨i, rfl, hi, hx, rfl, rfl⟩
  refine L_reg [0, 1, 7, 8, 9] (fun K hK => ?_)
  simp
  apply hK; clear hK K
  refine L_dec (i < l.length) (by simp) (fun hlt => ?_) (fun hge => L_exit ?_)
  · obtain ⟨r', rfl, rfl, hrd⟩ := hld i hlt
    rw [ixS_drop _ hlt] at hx
    refine L_block ?_
    refine L_reg [0, 1, 5, 7, 8] (fun K hK => ?_)
    simp
    apply hK; clear hK K
    refine L_reg [0, 1, 5, 7, 8, 16] (fun K hK => ?_)
    simp [okFn_low, hlt, hrd]
    refine lack1_ac _ q s ov o _ _ ho hq hone hov ?_
    simp
    apply hK; clear hK K
    refine L_split rfl (fun ht => ?_) (fun hf => ?_)
    · rw [if_pos ht] at hx
      refine L_reg [4] (fun K hK => ?_)
      simp
      apply hK; clear hK K
      exact L_ret ⟨.inr rfl, _, rfl, by rw [hx] at h; exact h⟩
    · rw [if_neg (by rw [hf]; simp)] at hx
      refine L_reg [0, 1, 7, 8] (fun K hK => ?_)
      simp [wrap_i64 (a := (i : Int) + 1) (by omega)]
      apply hK; clear hK K
      exact ⟨l.length - (i + 1), [.int .i64 (i + 1 : Nat)], by omega, by simp, i + 1, rfl, by omega, hx, rfl, rfl⟩
  · have : i = l.length := by omega
    subst this
    rw [List.drop_length] at hx
    refine L_reg [4] (fun K hK => ?_)
    simp
    apply hK; clear hK K
    exact L_ret ⟨.inr rfl, _, rfl, by rw [hx] at h; exact h⟩

@[simp] theorem x_copy {P : Program} {H : AH} {ρ : Operand → AV} (x y : Operand) (t u : TypeId) : execN P ρ H (.call ⟨.builtin .copy, #[x, y], #[t, u]⟩) = appV (aCopy P H t (ρ x) (ρ y)) := by
  have : execN P ρ H (.call ⟨.builtin .copy, #[x, y], #[t, u]⟩) = (aCopy P H t (ρ x) (ρ y)).map fun p => (some p.1, p.2) := rfl
  rw [this]
  cases aCopy P H t (ρ x) (ρ y) <;> rfl
@[simp] theorem s_isc_copy (xs : Array Operand) (ts : Array TypeId) : isFnCall (.call ⟨.builtin .copy, xs, ts⟩) = false := rfl
theorem takeKnown_ints (n : Nat) : takeKnown n (List.replicate n (AV.int .i64 0)) = some (List.replicate n (AV.int .i64 0)) := by
  induction n with
  | zero => rfl
  | succ n ih => simp only [List.replicate_succ, takeKnown, ih]
theorem copy_new {H H1 : AH} {w n : Nat} {v : AV} {l : List Int} (hw : H1[w]? = some (.row (List.replicate l.length (.int .i64 0)) 0 0 false)) (hv : Ls H1 v l) :
    ∃ s, aCopy Tryd.prog H1 26 (.slice (some w) 0 l.length 0 1 false) v = some (.int .i64 l.length, H1.set w (.row (l.map (.int .i64)) 0 s false)) := by
  obtain ⟨e, I, h1, h2, h3, h4, -⟩ := elT_some el26
  obtain ⟨i, z, g1, g2, g3, -⟩ := (tiOf_some h2).2
  obtain ⟨r, off, ver, sz, full, rfl, hld⟩ := hv
  have hlw : w < H1.length := (List.getElem?_eq_some_iff.1 hw).1
  cases l with
  | nil =>
    refine ⟨0, ?_⟩
    have hs : H1.set w (.row (List.map (AV.int .i64) []) 0 0 false) = H1 := by
      apply List.ext_getElem?
      intro j
      rw [List.getElem?_set]
      split
      · rename_i h; subst h; rw [hw]; rfl
      · rfl
    rw [hs]
    cases r <;> simp [aCopy, h1, g1, isNilSl, slParts]
  | cons y l =>
    obtain ⟨r', rfl, rfl, -⟩ := hld 0 (by simp)
    have hl : ldn H1 r' ver (y :: l).length off = some ((y :: l).map (.int .i64)) := ldn_ints fun i hi => by
      obtain ⟨r2, e1, -, e3⟩ := hld i hi
      obtain rfl := Option.some.inj e1
      exact e3
    have hone := all_ints (y :: l)
    have hst : stn H1 w 0 ((y :: l).map (.int .i64)) 0 = some (H1.set w (.row ((y :: l).map (.int .i64)) 0 0 false)) := by
      have hk := takeKnown_ints (y :: l).length
      simp only [List.map_cons] at hone ⊢
      simp only [stn, hw, List.drop_zero, List.length_cons, List.length_map] at hk ⊢
      rw [if_pos ⟨trivial, trivial, hone, by rw [hk]; rfl⟩]
      simp
    refine ⟨0, ?_⟩
    have e1 : i.size = 1 := by rw [g3, h3]
    simp only [aCopy, h1, g1, isNilSl, slParts, Bool.false_and, Bool.false_eq_true, if_false, Nat.min_self, e1, Nat.mul_one]
    rw [if_neg (by simp), if_pos ⟨trivial, trivial⟩, hl, Option.bind_some, if_pos hone, hst]
    rfl
set_option maxRecDepth 100000 in
theorem kept_ac (v : AV) (l : List Int) (H : AH) (Q : AV → AH → Prop) (hl : l.length ≤ 1000000) (hv : Ls H v l) (h : ∀ v' H', OwnF H.length H' v' (l.map (.int .i64)) → Ext H H' → Q v' H') : AC Tryd.prog 59 [v] H Q := by
  obtain ⟨r0, off0, ver0, sz0, full0, hv0, -⟩ := id hv
  refine L_body 11 Tryd.func59 rfl rfl ?_
  refine L_reg [0] (fun K hK => ?_)
  simp
  apply hK; clear hK K
  refine L_reg [0, 3] (fun K hK => ?_)
  simp [hv0, make_z elz26 (show l.length ≤ 16777216 by omega)]
  apply hK; clear hK K
  have hE1 : Ext H (H ++ [AObj.row (List.replicate l.length (AV.int .i64 0)) 0 0 false]) := .push _ _
  have hw : (H ++ [AObj.row (List.replicate l.length (AV.int .i64 0)) 0 0 false])[H.length]? = some (.row (List.replicate l.length (AV.int .i64 0)) 0 0 false) := by simp
  generalize H ++ [AObj.row (List.replicate l.length (AV.int .i64 0)) 0 0 false] = H1 at hE1 hw ⊢
  obtain ⟨s, hcp⟩ := copy_new (H := H) (n := 0) hw (hv.ext hE1)
  rw [hv0] at hcp
  refine L_reg [3] (fun K hK => ?_)
  simp [hcp]
  apply hK; clear hK K
  refine L_reg [2] (fun K hK => ?_)
  simp
  apply hK; clear hK K
  exact L_ret ⟨.inr rfl, _, rfl, h _ _ (.inr ⟨H.length, 0, s, Nat.le_refl _, by simp, get_set hw⟩) (hE1.set _ (Nat.le_refl _))⟩
theorem ownF_less {N M : Nat} {H : AH} {v : AV} {l : List AV} (h : OwnF N H v l) (hM : M ≤ N) : OwnF M H v l := by
  rcases h with h | ⟨r, ver, stale, h1, h2, h3⟩
  · exact .inl h
  · exact .inr ⟨r, ver, stale, by omega, h2, h3⟩
theorem clear_tail {H : AH} {t : TypeId} {z : AV} (hz : elZ Tryd.prog t = some z) {r ver stale i : Nat} {c : List AV} (hr : H[r]? = some (.row c ver stale false)) (hone : ∀ x ∈ c, x.one = true) (hz1 : z.one = true) (hi : i < c.length) (f : Bool) :
    aClear Tryd.prog H t (.slice (some r) i (c.length - i) ver 1 f) = some (H.set r (.row (c.take i ++ List.replicate (c.length - i) z) ver (min stale i) false)) := by
  unfold elZ at hz
  split at hz
  case h_2 => cases hz
  rename_i e he
  split at hz
  case h_2 => cases hz
  rename_i I hI
  split at hz
  case isFalse => cases hz
  rename_i hc
  split at hz
  case h_2 => cases hz
  rename_i z' hz'
  obtain rfl := Option.some.inj hz
  obtain ⟨n, hn⟩ : ∃ n, c.length - i = n + 1 := ⟨c.length - i - 1, by omega⟩
  have hdl : (c.drop i).length = n + 1 := by simp [hn]
  have hk : (takeKnown (n + 1) (c.drop i)).isSome = true := by
    have := takeKnown_row (l := c.drop i) (fun x hx => one_known (hone x (List.mem_of_mem_drop hx))) []
    rw [List.append_nil, hdl] at this
    rw [this]; rfl
  have hvs : ((List.range ((n + 1) * 1)).map fun i => (I.zero[i % I.zero.length]?).getD .undef) = z' :: List.replicate n z' := by
    rw [← List.replicate_succ, hz']
    apply List.ext_getElem
    · simp
    · intro j h1 h2
      simp [Nat.mod_one]
  have hall : (z' :: List.replicate n z').all AV.one = true := by
    rw [List.all_eq_true]
    intro x hx
    rw [← List.replicate_succ] at hx
    rw [List.eq_of_mem_replicate hx]; exact hz1
  unfold aClear
  simp only [he, hI, isNilSl, slParts, hc.1, hn, Bool.false_eq_true, if_false]
  rw [if_neg (Nat.succ_ne_zero n), if_pos ⟨trivial, Nat.one_pos⟩, hvs]
  simp only [stn, hr, List.length_cons, List.length_replicate]
  rw [if_pos ⟨trivial, trivial, hall, hk⟩, List.drop_eq_nil_of_le (by omega)]
  simp [List.replicate_succ]

theorem ixS_spec (p : Int → Bool) : ∀ (l : List Int) (i : Nat), (ixS p l i = -1 ∧ ∀ x ∈ l, p x = false) ∨ ∃ k, ∃ h : k < l.length, ixS p l i = ((i + k : Nat) : Int) ∧ p l[k] = true ∧ ∀ x ∈ l.take k, p x = false
  | [], i => .inl ⟨rfl, by simp⟩
  | y :: l, i => by
    simp only [ixS]
    by_cases hy : p y = true
    · exact .inr ⟨0, by simp, by simp [hy], by simpa using hy, by simp⟩
    · rw [if_neg hy]
      rcases ixS_spec p l (i + 1) with ⟨h1, h2⟩ | ⟨k, h, h1, h2, h3⟩
      · exact .inl ⟨h1, by simpa using ⟨by simpa using hy, h2⟩⟩
      · refine .inr ⟨k + 1, by simp; omega, by rw [h1]; congr 1; omega, by simpa using h2, ?_⟩
        simpa using ⟨by simpa using hy, h3⟩
def lack (l o : List Int) : List Int := l.filter fun y => decide (y ∉ o)
theorem lack_take {l o : List Int} {j : Nat} (hj : j < l.length) : lack (l.take (j + 1)) o = lack (l.take j) o ++ if l[j] ∈ o then [] else [l[j]] := by
  unfold lack
  rw [List.take_add_one, List.getElem?_eq_getElem hj, List.filter_append]
  by_cases h : l[j] ∈ o <;> simp [h]
def OwnG (N : Nat) (H : AH) (v : AV) (l : List Int) : Prop := OwnF N H v (l.map (.int .i64)) ∨ OwnT N H v (l.map (.int .i64))

set_option maxRecDepth 100000 in
theorem DeleteFunc_ac (v : AV) (l : List Int) (q s : Nat) (ov : AV) (o : List Int) (H0 H : AH) (Q : AV → AH → Prop) (hE : Ext H0 H) (hl : l.length ≤ 1000000) (hv : OwnF H0.length H v (l.map (.int .i64))) (ho : o.length ≤ 1000000) (hq : H0[q]? = some (.row [ov] 0 s false)) (hone : ov.one = true) (hov : Ls H0 ov o)
    (h : ∀ v' H', OwnG H0.length H' v' (lack l o) → Ext H0 H' → Q v' H') : AC Tryd.prog 58 [v, .func (.func 60) [] [.ptr q 0 0]] H Q := by
  have hls : Ls H v l := by
    rcases hv with ⟨h1, rfl⟩ | ⟨r, ver, stale, h1, rfl, h3⟩
    · obtain rfl : l = [] := by simpa using h1
      exact ⟨none, 0, 0, 1, false, rfl, fun i hi => by simp at hi⟩
    · have := Ls.row h3 false
      simpa using this
  refine L_body 42 Tryd.func58 rfl rfl ?_
  refine L_reg [0, 1] (fun K hK => ?_)
  simp
  apply hK; clear hK K
  refine L_reg [0, 1, 5] (fun K hK => ?_)
  simp [okFn_low]
  refine IndexFunc_ac v l q s ov o _ _ hl hls ho (hE.row hq) hone (hov.ext hE) ?_
  simp
  apply hK; clear hK K
  refine L_reg [0, 1, 5, 12] (fun K hK => ?_)
  simp
  apply hK; clear hK K
  rcases ixS_spec (fun y => decide (y ∈ o)) l 0 with ⟨h1, h2⟩ | ⟨k0, hk0, h1, h2, h3⟩
  · refine L_true (by simp [h1]) ?_
    refine L_reg [4] (fun K hK => ?_)
    simp
    apply hK; clear hK K
    have : lack l o = l := by
      unfold lack
      rw [List.filter_eq_self]
      intro x hx
      simpa using h2 x hx
    exact L_ret ⟨.inr rfl, _, rfl, h v H (by rw [this]; exact .inl hv) hE⟩
  · refine L_false (by simp [h1]) ?_
    rw [h1]
    rcases hv with ⟨g1, -⟩ | ⟨r, ver, stale, g1, rfl, g3⟩
    · obtain rfl : l = [] := by simpa using g1
      simp at hk0
    simp only [List.length_map, Nat.zero_add]
    have h2' : l[k0] ∈ o := by simpa using h2
    have hk1 : lack (l.take k0) o = l.take k0 := by
      unfold lack
      rw [List.filter_eq_self]
      intro x hx
      simpa using h3 x hx
    refine L_reg [0, 1, 5, 6] (fun K hK => ?_)
    simp [wrap_i64 (a := (k0 : Int) + 1) (by omega)]
    apply hK; clear hK K
    refine L_block (L_loopV [5, 6] (fun k vs H' => ∃ (i j : Nat) (c : List Int) (st : Nat), k = l.length - j ∧ i < j ∧ j ≤ l.length ∧ c.length = l.length ∧ c.take i = lack (l.take j) o ∧ c.drop j = l.drop j ∧ vs = [.int .i64 i, .int .i64 j] ∧ H'[r]? = some (.row (c.map (.int .i64)) ver st false) ∧ Ext H0 H') _ [.int .i64 k0, .int .i64 (k0 + 1 : Nat)] rfl ⟨k0, k0 + 1, l, stale, rfl, by omega, by omega, rfl, by rw [lack_take hk0, hk1]; simp [h2'], rfl, rfl, g3, hE⟩ ?_)
    rintro k _ H1 ⟨i, j, c, st, rfl, hij, hj, hcl, hct, hcd, rfl, hrow, hE1⟩
    refine L_reg [0, 1, 5, 6, 19] (fun K hK => ?_)
    simp
    apply hK; clear hK K
    refine L_dec (j < l.length) (by simp) (fun hlt => ?_) (fun hge => L_exit ?_)
    · have hcj : c[j]'(by omega) = l[j] := by
        rw [List.drop_eq_getElem_cons (by omega), List.drop_eq_getElem_cons hlt] at hcd
        exact (List.cons.inj hcd).1
      have hcd' : c.drop (j + 1) = l.drop (j + 1) := by
        rw [List.drop_eq_getElem_cons (by omega), List.drop_eq_getElem_cons hlt] at hcd
        exact (List.cons.inj hcd).2
      have hrd : ld H1 r j ver = some (.int .i64 l[j]) := by rw [ld_row hrow, ← hcj]; simp [show j < c.length by omega]
      refine L_block ?_
      refine L_reg [0, 1, 5, 6, 7] (fun K hK => ?_)
      simp [hlt, hrd]
      apply hK; clear hK K
      refine L_reg [0, 1, 5, 6, 7, 29] (fun K hK => ?_)
      simp [okFn_low]
      refine lack1_ac _ q s ov o _ _ ho (hE1.row hq) hone (hov.ext hE1) ?_
      simp
      apply hK; clear hK K
      by_cases hm : l[j] ∈ o
      · refine L_false (by simp [hm]) ?_
        refine L_reg [0, 1, 5, 6] (fun K hK => ?_)
        simp [wrap_i64 (a := (j : Int) + 1) (by omega)]
        apply hK; clear hK K
        exact ⟨l.length - (j + 1), [.int .i64 i, .int .i64 (j + 1 : Nat)], by omega, by simp, i, j + 1, c, st, rfl, by omega, by omega, hcl, by rw [hct, lack_take hlt]; simp [hm], hcd', rfl, hrow, hE1⟩
      · refine L_true (by simp [hm]) ?_
        have hst := store_row (P := Tryd.prog) (u := 3) (p := i) sc3 (x := .int .i64 l[j]) (y := .int .i64 (c[i]'(by omega))) rfl hrow (by simp [show i < c.length by omega])
        rw [← List.map_set] at hst
        refine L_reg [0, 1, 5, 6, 7] (fun K hK => ?_)
        simp [show i < l.length by omega, hst]
        apply hK; clear hK K
        refine L_reg [0, 1, 5, 6] (fun K hK => ?_)
        simp [wrap_i64 (a := (i : Int) + 1) (by omega)]
        apply hK; clear hK K
        refine L_reg [0, 1, 5, 6] (fun K hK => ?_)
        simp [wrap_i64 (a := (j : Int) + 1) (by omega)]
        apply hK; clear hK K
        refine ⟨l.length - (j + 1), [.int .i64 (i + 1 : Nat), .int .i64 (j + 1 : Nat)], by omega, by simp, i + 1, j + 1, c.set i l[j], min st i, rfl, by omega, by omega, by simpa using hcl, ?_, ?_, rfl, by rw [get_set hrow, List.map_set], hE1.set _ (by omega)⟩
        · rw [lack_take hlt, if_neg hm, ← hct, List.take_add_one, List.take_set_of_le (by omega)]
          simp [show i < c.length by omega]
        · rw [List.drop_set_of_lt (by omega)]; exact hcd'
    · obtain rfl : j = l.length := by omega
      rw [List.take_length] at hct
      have e2 : aSlice Tryd.prog 26 (.slice (some r) 0 l.length ver 1 false) (some (.int .i64 (i : Int))) none none = some (.slice (some r) i (l.length - i) ver 1 false) := by
        have := slice_lo slz26 (some r) 0 l.length ver false (k := .i64) (i := i) (by omega)
        simpa using this
      have e1 : aSlice Tryd.prog 26 (.slice (some r) 0 l.length ver 1 false) none (some (.int .i64 (i : Int))) none = some (.slice (some r) 0 i ver 1 false) := by
        have := slice_hi slz26 (some r) 0 l.length ver false (k := .i64) (i := i) (by omega)
        simpa using this
      have hint : ∀ x ∈ c.map (AV.int .i64), x.one = true := by
        intro x hx
        obtain ⟨y, -, rfl⟩ := List.mem_map.1 hx; rfl
      have e3 := clear_tail elz26 hrow hint rfl (i := i) (by simp; omega) false
      simp only [List.length_map, hcl] at e3
      refine L_reg [0, 5] (fun K hK => ?_)
      simp [e2, e3]
      apply hK; clear hK K
      refine L_reg [4] (fun K hK => ?_)
      simp [e1]
      apply hK; clear hK K
      have hil : i = (lack l o).length := by rw [← hct]; simp; omega
      refine L_ret ⟨.inr rfl, _, rfl, h _ _ (.inr ⟨r, ver, min st i, List.replicate (l.length - i) (.int .i64 0), g1, by rw [hil]; simp, ?_, ?_⟩) (hE1.set _ g1)⟩
      · rw [get_set hrow, ← hct, List.map_take]
      · intro x hx
        rcases List.mem_append.1 hx with hx | hx
        · obtain ⟨y, -, rfl⟩ := List.mem_map.1 hx; rfl
        · rw [List.eq_of_mem_replicate hx]; rfl
set_option maxRecDepth 100000 in
theorem lacking_ac (u v : AV) (l o : List Int) (H : AH) (Q : AV → AH → Prop) (hl : l.length ≤ 1000000) (ho : o.length ≤ 1000000) (hu : Ls H u l) (hv : Ls H v o) (h : ∀ v' H', OwnG H.length H' v' (lack l o) → Ext H H' → Q v' H') : AC Tryd.prog 49 [u, v] H Q := by
  obtain ⟨r0, off0, ver0, sz0, full0, hv0, -⟩ := id hv
  refine L_body 9 Tryd.func49 rfl rfl ?_
  refine L_reg [0, 3] (fun K hK => ?_)
  simp [hv0, AV.isU, acells]
  apply hK; clear hK K
  have hE1 : Ext H (H ++ [AObj.row [.slice r0 off0 o.length ver0 sz0 full0] 0 0 false]) := .push _ _
  have hq : (H ++ [AObj.row [.slice r0 off0 o.length ver0 sz0 full0] 0 0 false])[H.length]? = some (.row [.slice r0 off0 o.length ver0 sz0 full0] 0 0 false) := by simp
  generalize H ++ [AObj.row [.slice r0 off0 o.length ver0 sz0 full0] 0 0 false] = H1 at hE1 hq ⊢
  have hov : Ls H1 (.slice r0 off0 o.length ver0 sz0 full0) o := hv0 ▸ hv.ext hE1
  refine L_reg [4] (fun K hK => ?_)
  simp [okFn_low]
  refine kept_ac u l H1 _ hl (hu.ext hE1) (fun w H2 hw hE2 => ?_)
  simp [okFn_low]
  refine DeleteFunc_ac w l H.length 0 (.slice r0 off0 o.length ver0 sz0 full0) o H1 H2 _ hE2 hl hw ho hq rfl hov (fun v' H3 hv' hE3 => ?_)
  simp
  apply hK; clear hK K
  have hle := hE1.1
  refine L_ret ⟨.inr rfl, _, rfl, h v' H3 ?_ (hE1.trans hE3)⟩
  rcases hv' with g | ⟨r, ver, stale, tl, g1, g2⟩
  · exact .inl (ownF_less g hle)
  · exact .inr ⟨r, ver, stale, tl, by omega, g2⟩
/-- The exact form, where something is lacking. -/
theorem lacking_q (u v : AV) (l o : List Int) (H : AH) (hl : l.length ≤ 1000000) (ho : o.length ≤ 1000000) (hu : Ls H u l) (hv : Ls H v o) (hne : lack l o ≠ []) (Q : AV → AH → Prop)
    (hq : Q (.slice (some H.length) 0 (lack l o).length 0 1 false) (H ++ [.row ((lack l o).map (.int .i64)) 0 (lack l o).length false])) : AC Tryd.prog 49 [u, v] H Q := by
  refine AC_fin (lacking_ac u v l o H _ hl ho hu hv fun v' H' hO hE => ?_)
  refine ⟨⟨hE.1, fun r o hr ho => .inl (by rw [← hE.2 r hr]; exact ho)⟩, ?_⟩
  have ht : H'.take H.length = H := by
    obtain ⟨T, rfl⟩ := hE.app
    simp
  have hO' : OwnT H.length H' v' ((lack l o).map (.int .i64)) := by
    rcases hO with g | g
    · exact g.more (by simpa using hne) (fun x hx => by obtain ⟨y, -, rfl⟩ := List.mem_map.1 hx; rfl)
    · exact g
  have hb := belB_ints H.length (lack l o)
  obtain ⟨r, ver, stale, tl, hr, rfl, hrow, -⟩ := hO'
  have hlm : ((lack l o).map (AV.int .i64)).length = (lack l o).length := by simp
  rw [hlm] at *
  have hlm2 : ((lack l o).map (AV.int .i64)).length = (lack l o).length := by simp
  have h1 : belB H.length 4 (.slice (some r) 0 (lack l o).length ver 1 false) = false := by simp [belB]; omega
  have htk : ((lack l o).map (AV.int .i64) ++ tl).take (lack l o).length = (lack l o).map (AV.int .i64) := List.take_left' hlm2
  have h2 : finSlice H.length H' (.slice (some r) 0 (lack l o).length ver 1 false) = some (.slice (some H.length) 0 (lack l o).length 0 1 false, .row ((lack l o).map (.int .i64)) 0 (lack l o).length false) := by
    simp only [finSlice, hrow, if_pos hr, Nat.mul_one, Nat.zero_add, List.drop_zero]
    rw [htk, if_pos ⟨trivial, by simp, hb⟩]
  have hf : finish H.length H' (.slice (some r) 0 (lack l o).length ver 1 false) = (.slice (some H.length) 0 (lack l o).length 0 1 false, H ++ [.row ((lack l o).map (.int .i64)) 0 (lack l o).length false]) := by
    unfold finish
    rw [h1]
    simp only [Bool.false_eq_true, if_false, h2, ht]
  rw [hf]; exact hq
end Go.Proofs.YtmlhekfkniibmaaDoor

/- What the steps ask of heaps and spans. -/
namespace Go.Proofs.YtmlhekfkniibmaaDoor
open Go Go.Proofs.YtmlhekfkniibmaaDoor.AX
theorem pr121 : pairT Tryd.prog 121 = true := by kernel_rfl
/-- Two cells, written and read. -/
def two (a b : Int) : List AV := [.int .i64 a, .int .i64 b]
theorem put121 (H : AH) (a b : Int) : storeV Tryd.prog 121 (H ++ [.row [.int .i64 0, .int .i64 0] 0 0 false]) (.ptr H.length 0 0) (.agg [.int .i64 a, .int .i64 b]) = some (none, H ++ [.row (two a b) 0 0 false]) := by
  rw [store_agg ag121 (c := [.int .i64 0, .int .i64 0]) (s := 0) (by simp) (by decide) rfl (by simp) rfl (by simp [AV.one])]
  simp [two]
theorem put81 (H : AH) (a b : Int) : storeV Tryd.prog 81 (H ++ [.row [.int .i64 0, .int .i64 0] 0 0 false]) (.ptr H.length 0 0) (.agg [.int .i64 a, .int .i64 b]) = some (none, H ++ [.row (two a b) 0 0 false]) := by
  rw [store_agg ag81 (c := [.int .i64 0, .int .i64 0]) (s := 0) (by simp) (by decide) rfl (by simp) rfl (by simp [AV.one])]
  simp [two]
theorem set121 {H : AH} {w : Nat} {a b c d : Int} {s : Nat} (hw : H[w]? = some (.row (two a b) 0 s false)) : storeV Tryd.prog 121 H (.ptr w 0 0) (.agg [.int .i64 c, .int .i64 d]) = some (none, H.set w (.row (two c d) 0 0 false)) :=
  store_agg ag121 hw (by decide) rfl (by simp [two]) rfl (by simp [AV.one])
theorem ldn_two {H : AH} {w s : Nat} {a b : Int} {ro : Bool} (hw : H[w]? = some (.row (two a b) 0 s ro)) : ldn H w 0 2 0 = some [.int .i64 a, .int .i64 b] := by
  rw [ldn_row hw]; rfl
theorem ld_two0 {H : AH} {w s : Nat} {a b : Int} {ro : Bool} (hw : H[w]? = some (.row (two a b) 0 s ro)) : ld H w 0 0 = some (.int .i64 a) := by
  rw [ld_row hw]; rfl
theorem ld_two1 {H : AH} {w s : Nat} {a b : Int} {ro : Bool} (hw : H[w]? = some (.row (two a b) 0 s ro)) : ld H w 1 0 = some (.int .i64 b) := by
  rw [ld_row hw]; rfl
/-- Heaps. -/
def cells (l : List (Int × Int)) : List (List AV) := l.map fun h => two h.1 h.2
@[simp] theorem cells_length (l : List (Int × Int)) : (cells l).length = l.length := by simp [cells]
def Hs (H : AH) (v : AV) (l : List (Int × Int)) : Prop := Rs 2 H v (cells l)
theorem Hs.ext {H H1 : AH} {v : AV} {l : List (Int × Int)} (h : Hs H v l) (hE : Ext H H1) : Hs H1 v l := Rs.ext h hE
theorem Hs.read {H : AH} {v : AV} {l : List (Int × Int)} (h : Hs H v l) : ∃ r off ver sz full, v = .slice r off l.length ver sz full ∧ ∀ i (hi : i < l.length), ∃ r', r = some r' ∧ sz = 2 ∧ ldn H r' ver 2 (off + i * 2) = some [.int .i64 l[i].1, .int .i64 l[i].2] := by
  obtain ⟨r, off, ver, sz, full, rfl, hl⟩ := h
  refine ⟨r, off, ver, sz, full, by simp, fun i hi => ?_⟩
  obtain ⟨r', h1, h2, h3⟩ := hl i (by simpa using hi)
  exact ⟨r', h1, h2, by simpa [cells, two] using h3⟩
end Go.Proofs.YtmlhekfkniibmaaDoor

/- Spans: how many heaps lie in them, the next one, the first crowded one, and whether there is a plan. -/
namespace Go.Proofs.YtmlhekfkniibmaaDoor
open Go Go.Proofs.YtmlhekfkniibmaaDoor.AX

def inS (a b : Int) (h : Int × Int) : Bool := decide (a ≤ h.1) && decide (h.2 ≤ b)
def holdsS (a b : Int) (l : List (Int × Int)) : Nat := l.countP (inS a b)
theorem countP_take_succ {α : Type} (p : α → Bool) (l : List α) {i : Nat} (hi : i < l.length) : (l.take (i + 1)).countP p = (l.take i).countP p + if p l[i] = true then 1 else 0 := by
  rw [List.take_succ_eq_append_getElem hi, List.countP_append]
  simp [List.countP_cons]

set_option maxRecDepth 100000 in
theorem holds_ac (a b : Int) (v : AV) (l : List (Int × Int)) (H : AH) (Q : AV → AH → Prop) (hl : l.length ≤ 1000000) (hv : Hs H v l) (h : ∀ H', Ext H H' → Q (.int .i64 (holdsS a b l : Nat)) H') :
    AC Tryd.prog 103 [.agg [.int .i64 a, .int .i64 b], v] H Q := by
  obtain ⟨r, off, ver, sz, full, rfl, hld⟩ := hv.read
  refine L_body 30 Tryd.func103 rfl rfl ?_
  refine L_reg [1, 2] (fun K hK => ?_)
  simp [AV.isU, acells]
  apply hK; clear hK K
  have hbox : (H ++ [AObj.row (two a b) 0 0 false])[H.length]? = some (.row (two a b) 0 0 false) := by simp
  have hE0 : Ext H (H ++ [AObj.row (two a b) 0 0 false]) := .push _ _
  simp only [two] at hbox hE0
  generalize H ++ [AObj.row [AV.int IntKind.i64 a, AV.int IntKind.i64 b] 0 0 false] = H1 at hbox hE0 ⊢
  generalize H.length = w at hbox ⊢
  refine L_reg [1, 2, 5] (fun K hK => ?_)
  simp
  apply hK; clear hK K
  refine L_reg [2, 5, 8, 9, 10] (fun K hK => ?_)
  simp
  apply hK; clear hK K
  refine L_block (L_loopV [5, 10] (fun k vs H' => ∃ i : Nat, k = l.length - i ∧ i ≤ l.length ∧ vs = [.int .i64 ((l.take i).countP (inS a b) : Nat), .int .i64 i] ∧ Ext H1 H') _ [.int .i64 (0 : Nat), .int .i64 (0 : Nat)] rfl ⟨0, rfl, by omega, by simp, .refl _⟩ ?_)
  rintro k _ H2 ⟨i, rfl, hi, rfl, hE⟩
  have hcl : (l.take i).countP (inS a b) ≤ i := Nat.le_trans List.countP_le_length (by simp; omega)
  refine L_reg [2, 5, 8, 9, 10, 11] (fun K hK => ?_)
  simp
  apply hK; clear hK K
  refine L_dec (i < l.length) (by simp) (fun hlt => ?_) (fun hge => L_exit ?_)
  · obtain ⟨r', rfl, rfl, hrd⟩ := hld i hlt
    have hrd := ldn_ext (hE0.trans hE) hrd
    have hsucc := countP_take_succ (inS a b) l hlt
    generalize l[i] = x at hrd hsucc
    obtain ⟨c, d⟩ := x
    refine L_block ?_
    refine L_reg [2, 5, 7, 8, 9, 10] (fun K hK => ?_)
    simp [hlt, hrd, alloc_z zt81, put81]
    apply hK; clear hK K
    have hbx : (H2 ++ [AObj.row (two c d) 0 0 false])[H2.length]? = some (.row (two c d) 0 0 false) := by simp
    have hE1 : Ext H2 (H2 ++ [AObj.row (two c d) 0 0 false]) := .push _ _
    generalize H2 ++ [AObj.row (two c d) 0 0 false] = H3 at hbx hE1 ⊢
    generalize H2.length = u at hbx ⊢
    have hw3 := hE1.row (hE.row hbox)
    have e1 := ld_two0 hw3
    have e2 := ld_two1 hw3
    have e3 := ld_two0 hbx
    have e4 := ld_two1 hbx
    have hE3 := hE.trans hE1
    by_cases hac : a ≤ c
    · refine L_reg [2, 5, 8, 9, 10, 25] (fun K hK => ?_)
      simp [e1, e2, e3, e4, pickV, hac]
      apply hK; clear hK K
      refine L_dec (d ≤ b) (by simp) (fun hdb => ?_) (fun hdb => ?_)
      · have hin : inS a b (c, d) = true := by simp [inS, hac, hdb]
        rw [if_pos hin] at hsucc
        refine L_reg [2, 5, 8, 9, 10] (fun K hK => ?_)
        simp [wrap_i64 (a := ((List.countP (inS a b) (List.take i l) : Nat) : Int) + 1) (by omega)]
        apply hK; clear hK K
        refine L_reg [2, 5, 8, 9, 10] (fun K hK => ?_)
        simp [wrap_i64 (a := (i : Int) + 1) (by omega)]
        apply hK; clear hK K
        exact ⟨l.length - (i + 1), [.int .i64 ((l.take (i + 1)).countP (inS a b) : Nat), .int .i64 (i + 1 : Nat)], by omega, by simp [hsucc], i + 1, rfl, by omega, rfl, hE3⟩
      · have hin : inS a b (c, d) = false := by simp [inS, hdb]
        rw [if_neg (by rw [hin]; decide)] at hsucc
        refine L_reg [2, 5, 8, 9, 10] (fun K hK => ?_)
        simp [wrap_i64 (a := (i : Int) + 1) (by omega)]
        apply hK; clear hK K
        exact ⟨l.length - (i + 1), [.int .i64 ((l.take (i + 1)).countP (inS a b) : Nat), .int .i64 (i + 1 : Nat)], by omega, by simp [hsucc], i + 1, rfl, by omega, rfl, hE3⟩
    · refine L_reg [2, 5, 8, 9, 10, 25] (fun K hK => ?_)
      simp [e1, e3, pickV, hac]
      apply hK; clear hK K
      refine L_false (by simp) ?_
      have hin : inS a b (c, d) = false := by simp [inS, hac]
      rw [if_neg (by rw [hin]; decide)] at hsucc
      refine L_reg [2, 5, 8, 9, 10] (fun K hK => ?_)
      simp [wrap_i64 (a := (i : Int) + 1) (by omega)]
      apply hK; clear hK K
      exact ⟨l.length - (i + 1), [.int .i64 ((l.take (i + 1)).countP (inS a b) : Nat), .int .i64 (i + 1 : Nat)], by omega, by simp [hsucc], i + 1, rfl, by omega, rfl, hE3⟩
  · have : i = l.length := by omega
    subst this
    refine L_reg [4] (fun K hK => ?_)
    simp
    apply hK; clear hK K
    exact L_ret ⟨.inr rfl, _, rfl, by simpa [holdsS] using h _ (hE0.trans hE)⟩

/-- The span that follows. -/
def nextS (a b : Int) : Int × Int := if b < 23 then (a, b + 1) else (a + 1, a + 1)
set_option maxRecDepth 100000 in
theorem next_acH (a b : Int) (H : AH) (Q : AV → AH → Prop) (ha : -1000 ≤ a ∧ a ≤ 1000) (hb : b ≤ 1000 ∧ -1000 ≤ b) (h : ∀ H', Ext H H' → Q (.agg [.int .i64 (nextS a b).1, .int .i64 (nextS a b).2]) H') : AC Tryd.prog 100 [.agg [.int .i64 a, .int .i64 b]] H Q := by
  obtain ⟨I, hI, hz⟩ := zeroT_some zt121
  refine L_body 19 Tryd.func100 rfl rfl ?_
  refine L_reg [1, 2] (fun K hK => ?_)
  simp [AV.isU, acells, hI, hz]
  apply hK; clear hK K
  have hE : Ext H (H ++ [AObj.row (two a b) 0 0 false, AObj.row (two 0 0) 0 0 false]) := .push _ _
  have h1 : (H ++ [AObj.row (two a b) 0 0 false, AObj.row (two 0 0) 0 0 false])[H.length]? = some (.row (two a b) 0 0 false) := by simp
  have h2 : (H ++ [AObj.row (two a b) 0 0 false, AObj.row (two 0 0) 0 0 false])[H.length + 1]? = some (.row (two 0 0) 0 0 false) := by simp
  simp only [two] at hE h1 h2
  generalize H ++ [AObj.row [AV.int IntKind.i64 a, AV.int IntKind.i64 b] 0 0 false, AObj.row [AV.int IntKind.i64 0, AV.int IntKind.i64 0] 0 0 false] = H1 at hE h1 h2 ⊢
  have e0 := ld_two0 h1
  have e1 := ld_two1 h1
  refine L_reg [1, 2, 5] (fun K hK => ?_)
  simp [e1]
  apply hK; clear hK K
  refine L_dec (b < 23) (by simp) (fun hlt => ?_) (fun hge => ?_)
  · rw [nextS, if_pos hlt] at h
    have hs := set121 (c := a) (d := b + 1) h2
    refine L_reg [2] (fun K hK => ?_)
    simp [e0, e1, wrap_i64 (a := b + 1) (by omega), hs]
    apply hK; clear hK K
    refine L_ret ⟨.inr rfl, _, res_cell rfl ?_, h _ (hE.set _ (by omega))⟩
    simp [ldn_two (get_set h2)]
  · rw [nextS, if_neg hge] at h
    have hs := set121 (c := a + 1) (d := a + 1) h2
    refine L_reg [2] (fun K hK => ?_)
    simp [e0, wrap_i64 (a := a + 1) (by omega), hs]
    apply hK; clear hK K
    refine L_ret ⟨.inr rfl, _, res_cell rfl ?_, h _ (hE.set _ (by omega))⟩
    simp [ldn_two (get_set h2)]
theorem holds_q (a b : Int) (v : AV) (l : List (Int × Int)) (H : AH) (hl : l.length ≤ 1000000) (hv : Hs H v l) (Q : AV → AH → Prop) (h : Q (.int .i64 (holdsS a b l : Nat)) H) : AC Tryd.prog 103 [.agg [.int .i64 a, .int .i64 b], v] H Q :=
  AC.quiet (belB_int _ _ _ _) (fun Q h => holds_ac a b v l H Q hl hv h) Q h
theorem next_q (a b : Int) (H : AH) (ha : -1000 ≤ a ∧ a ≤ 1000) (hb : b ≤ 1000 ∧ -1000 ≤ b) (Q : AV → AH → Prop) (h : Q (.agg [.int .i64 (nextS a b).1, .int .i64 (nextS a b).2]) H) : AC Tryd.prog 100 [.agg [.int .i64 a, .int .i64 b]] H Q :=
  AC.quiet (belB_two _ _ _ _ _ _) (fun Q h => next_acH a b H Q ha hb h) Q h

def crowdedS (a b k : Int) (l : List (Int × Int)) : Bool := decide ((b - a + 1) * k < (holdsS a b l : Nat))
set_option maxRecDepth 100000 in
theorem crowded_ac (a b k : Int) (v : AV) (l : List (Int × Int)) (H : AH) (Q : AV → AH → Prop) (hl : l.length ≤ 1000000) (hv : Hs H v l) (ha : 0 ≤ a ∧ a ≤ 100) (hb : 0 ≤ b ∧ b ≤ 100) (hk : 0 ≤ k ∧ k ≤ 1000)
    (h : ∀ H', Ext H H' → Q (.bool (crowdedS a b k l)) H') : AC Tryd.prog 99 [.agg [.int .i64 a, .int .i64 b], v, .int .i64 k] H Q := by
  refine L_body 19 Tryd.func99 rfl rfl ?_
  refine L_reg [1, 2, 3] (fun K hK => ?_)
  simp [AV.isU, acells]
  apply hK; clear hK K
  have hE : Ext H (H ++ [AObj.row (two a b) 0 0 false]) := .push _ _
  have h1 : (H ++ [AObj.row (two a b) 0 0 false])[H.length]? = some (.row (two a b) 0 0 false) := by simp
  simp only [two] at hE h1
  generalize H ++ [AObj.row [AV.int IntKind.i64 a, AV.int IntKind.i64 b] 0 0 false] = H1 at hE h1 ⊢
  generalize H.length = w at h1 ⊢
  have e0 := ld_two0 h1
  have e1 := ld_two1 h1
  have e2 := ldn_two h1
  have hm1 : (b - a + 1) * k ≤ 101 * 1000 := Int.le_trans (Int.mul_le_mul_of_nonneg_right (show b - a + 1 ≤ 101 by omega) hk.1) (Int.mul_le_mul_of_nonneg_left hk.2 (by decide))
  have hm2 : -100 * 1000 ≤ (b - a + 1) * k := Int.le_trans (by
    have := Int.mul_le_mul_of_nonneg_left hk.2 (show (0 : Int) ≤ 100 by decide)
    omega) (Int.mul_le_mul_of_nonneg_right (show -100 ≤ b - a + 1 by omega) hk.1)
  refine L_regY mixed [6] (by kernel_rfl) (fun K hK => ?_)
  simp [e2, okFn_low]
  refine exX_mk (fun Q hQ => holds_q a b v l H1 hl (hv.ext hE) Q hQ) (.refl _) ?_
  simp [e0, e1, wrap_i64 (a := b - a) (by omega), wrap_i64 (a := b - a + 1) (by omega), wrap_i64 (a := (b - a + 1) * k) (by omega)]
  apply hK; clear hK K
  exact L_ret ⟨.inr rfl, _, rfl, by simpa [crowdedS] using h _ hE⟩
theorem crowded_q (a b k : Int) (v : AV) (l : List (Int × Int)) (H : AH) (hl : l.length ≤ 1000000) (hv : Hs H v l) (ha : 0 ≤ a ∧ a ≤ 100) (hb : 0 ≤ b ∧ b ≤ 100) (hk : 0 ≤ k ∧ k ≤ 1000) (Q : AV → AH → Prop) (h : Q (.bool (crowdedS a b k l)) H) :
    AC Tryd.prog 99 [.agg [.int .i64 a, .int .i64 b], v, .int .i64 k] H Q :=
  AC.quiet (belB_bool _ _ _) (fun Q h => crowded_ac a b k v l H Q hl hv ha hb hk h) Q h

/-- What the package's variable holds. -/
def gs : List (Nat × List AV) := [(0, [.int .i64 24, .int .i64 24])]
theorem gs_load {H : AH} (hg : HasG gs H) : loadV Tryd.prog 121 H (.gptr 0 0) = some (.agg [.int .i64 24, .int .i64 24]) := by
  have : gfind H 0 = some [.int .i64 24, .int .i64 24] := (hg (0, [.int .i64 24, .int .i64 24]) (by simp [gs])).1
  rw [load_gagg ag121, this]
  rfl
def fcS (k : Int) (l : List (Int × Int)) : Nat → Int → Int → Int × Int
  | 0, a, b => (a, b)
  | n + 1, a, b => if ((a == 24 && b == 24) || crowdedS a b k l) = true then (a, b) else fcS k l n (nextS a b).1 (nextS a b).2
def spanM (a b : Int) : Nat := ((24 - a) * 24 + (24 - b)).toNat
/-- A span within the day, or the one behind the last. -/
def okSpan (a b : Int) : Prop := (0 ≤ a ∧ a ≤ b ∧ b ≤ 23) ∨ (a = 24 ∧ b = 24)
theorem next_ok {a b : Int} (h : 0 ≤ a ∧ a ≤ b ∧ b ≤ 23) : okSpan (nextS a b).1 (nextS a b).2 ∧ spanM (nextS a b).1 (nextS a b).2 < spanM a b := by
  unfold nextS okSpan spanM
  split
  · exact ⟨.inl ⟨h.1, by omega, by omega⟩, by omega⟩
  · refine ⟨?_, by omega⟩
    by_cases h24 : a = 23
    · right; omega
    · left; omega
theorem fcS_ok (k : Int) (l : List (Int × Int)) : ∀ (n : Nat) (a b : Int), okSpan a b → okSpan (fcS k l n a b).1 (fcS k l n a b).2
  | 0, a, b, h => h
  | n + 1, a, b, h => by
    unfold fcS
    split
    · exact h
    · rename_i hc
      rcases h with h | ⟨rfl, rfl⟩
      · exact fcS_ok k l n _ _ (next_ok h).1
      · simp at hc
def firstS (k : Int) (l : List (Int × Int)) : Int × Int := fcS k l 601 0 0

set_option maxRecDepth 100000 in
theorem firstCrowded_ac (k : Int) (v : AV) (l : List (Int × Int)) (H : AH) (Q : AV → AH → Prop) (hl : l.length ≤ 1000000) (hv : Hs H v l) (hk : 0 ≤ k ∧ k ≤ 1000) (hg : HasG gs H)
    (h : ∀ H', Ext H H' → Q (.agg [.int .i64 (firstS k l).1, .int .i64 (firstS k l).2]) H') : AC Tryd.prog 89 [v, .int .i64 k] H Q := by
  obtain ⟨I, hI, hz⟩ := zeroT_some zt121
  refine L_body 20 Tryd.func89 rfl rfl ?_
  refine L_reg [0, 1, 4] (fun K hK => ?_)
  simp [hI, hz]
  apply hK; clear hK K
  have hE0 : Ext H (H ++ [AObj.row (two 0 0) 0 0 false]) := .push _ _
  have h0 : (H ++ [AObj.row (two 0 0) 0 0 false])[H.length]? = some (.row (two 0 0) 0 0 false) := by simp
  have hlt0 : H.length < (H ++ [AObj.row (two 0 0) 0 0 false]).length := by simp
  simp only [two] at hE0 h0 hlt0
  generalize H ++ [AObj.row [AV.int IntKind.i64 0, AV.int IntKind.i64 0] 0 0 false] = H1 at hE0 h0 hlt0 ⊢
  generalize hw0 : H.length = w0 at h0 hlt0 ⊢
  refine L_reg [0, 1, 4, 5] (fun K hK => ?_)
  simp [hI, hz, put121]
  apply hK; clear hK K
  have hE1 : Ext H1 (H1 ++ [AObj.row (two 0 0) 0 0 false]) := .push _ _
  have h1 : (H1 ++ [AObj.row (two 0 0) 0 0 false])[H1.length]? = some (.row (two 0 0) 0 0 false) := by simp
  generalize H1 ++ [AObj.row (two 0 0) 0 0 false] = H2 at hE1 h1 ⊢
  generalize hw1 : H1.length = w1 at h1 hlt0 ⊢
  have hE2 := hE0.trans hE1
  have h02 := hE1.row h0
  refine L_block (L_loopV [] (fun m vs H' => ∃ (a b : Int) (n : Nat), m = spanM a b ∧ okSpan a b ∧ spanM a b < n ∧ firstS k l = fcS k l n a b ∧ vs = [] ∧ Ext H H' ∧ H'[w0]? = some (.row (two 0 0) 0 0 false) ∧ H'[w1]? = some (.row (two a b) 0 0 false)) _ [] rfl
    ⟨0, 0, 601, rfl, .inl (by omega), by decide, rfl, rfl, hE2, h02, h1⟩ ?_)
  rintro m _ H3 ⟨a, b, n, rfl, hab, hn, hfc, rfl, hE, h03, h13⟩
  have hab' : 0 ≤ a ∧ a ≤ 24 ∧ 0 ≤ b ∧ b ≤ 24 := by rcases hab with h | h <;> omega
  have e1 := ldn_two h13
  have eg := gs_load (hg.ext hE)
  cases n with
  | zero => omega
  | succ n =>
  have hstep : firstS k l = if ((a == 24 && b == 24) || crowdedS a b k l) = true then (a, b) else fcS k l n (nextS a b).1 (nextS a b).2 := hfc
  by_cases hp : a = 24 ∧ b = 24
  · obtain ⟨rfl, rfl⟩ := hp
    refine L_reg [0, 1, 4, 5, 16] (fun K hK => ?_)
    simp [e1, eg, b_neP pr121, pickV]
    apply hK; clear hK K
    refine L_false (by simp) (L_exit ?_)
    simp at hstep
    have hst := set121 (c := 24) (d := 24) h03
    refine L_reg [4] (fun K hK => ?_)
    simp [e1, hst]
    apply hK; clear hK K
    refine L_ret ⟨.inr rfl, _, res_cell rfl ?_, h _ (hE.set _ (by omega))⟩
    rw [hstep]
    simp [ldn_two (get_set h03)]
  · have hne : (a == 24 && b == 24) = false := by
      rw [Bool.and_eq_false_iff]
      by_cases ha : a = 24
      · right; simp; omega
      · left; simp [ha]
    have hnn : (a == (24 : Int) && b == 24) = false := hne
    rw [hne, Bool.false_or] at hstep
    refine L_reg [0, 1, 4, 5, 16] (fun K hK => ?_)
    simp [e1, eg, b_neP pr121, hne, okFn_low]
    refine crowded_q a b k v l H3 hl (hv.ext hE) (by omega) (by omega) hk _ ?_
    simp [pickV]
    apply hK; clear hK K
    cases hc : crowdedS a b k l with
    | true =>
      rw [hc] at hstep
      refine L_false (by simp) (L_exit ?_)
      simp at hstep
      have hst := set121 (c := a) (d := b) h03
      refine L_reg [4] (fun K hK => ?_)
      simp [e1, hst]
      apply hK; clear hK K
      refine L_ret ⟨.inr rfl, _, res_cell rfl ?_, h _ (hE.set _ (by omega))⟩
      rw [hstep]
      simp [ldn_two (get_set h03)]
    | false =>
      rw [hc] at hstep
      simp only [Bool.false_eq_true, if_false] at hstep
      have hin : 0 ≤ a ∧ a ≤ b ∧ b ≤ 23 := by
        rcases hab with h | h
        · exact h
        · exact absurd h hp
      obtain ⟨g1, g2⟩ := next_ok hin
      refine L_true (by simp) (L_block ?_)
      have hst := set121 (c := (nextS a b).1) (d := (nextS a b).2) h13
      refine L_reg [0, 1, 4, 5] (fun K hK => ?_)
      simp [e1, okFn_low]
      refine next_q a b H3 (by omega) (by omega) _ ?_
      simp [hst]
      apply hK; clear hK K
      refine ⟨spanM (nextS a b).1 (nextS a b).2, [], g2, by simp, _, _, n, rfl, g1, by omega, hstep, rfl, hE.set _ (by omega), ?_, get_set h13⟩
      rw [List.getElem?_set_ne (by omega)]; exact h03
theorem firstCrowded_q (k : Int) (v : AV) (l : List (Int × Int)) (H : AH) (hl : l.length ≤ 1000000) (hv : Hs H v l) (hk : 0 ≤ k ∧ k ≤ 1000) (hg : HasG gs H) (Q : AV → AH → Prop) (h : Q (.agg [.int .i64 (firstS k l).1, .int .i64 (firstS k l).2]) H) :
    AC Tryd.prog 89 [v, .int .i64 k] H Q := AC.quiet (belB_two _ _ _ _ _ _) (fun Q h => firstCrowded_ac k v l H Q hl hv hk hg h) Q h

/-- Whether there is a plan, as the program asks it. -/
def possS (k : Int) (l : List (Int × Int)) : Bool := (firstS k l).1 == 24 && (firstS k l).2 == 24
theorem possible_ac (k : Int) (v : AV) (l : List (Int × Int)) (H : AH) (Q : AV → AH → Prop) (hl : l.length ≤ 1000000) (hv : Hs H v l) (hk : 0 ≤ k ∧ k ≤ 1000) (hg : HasG gs H) (h : Q (.bool (possS k l)) H) : AC Tryd.prog 66 [v, .int .i64 k] H Q := by
  refine L_body 10 Tryd.func66 rfl rfl ?_
  refine L_reg [0, 1] (fun K hK => ?_)
  simp
  apply hK; clear hK K
  have eg := gs_load hg
  refine L_regY mixed [4] (by kernel_rfl) (fun K hK => ?_)
  simp [okFn_low]
  refine exX_mk (fun Q hQ => firstCrowded_q k v l H hl hv hk hg Q hQ) (.refl _) ?_
  simp [eg, b_eqP pr121]
  apply hK; clear hK K
  exact L_ret ⟨.inr rfl, _, rfl, by simpa [possS] using h⟩
end Go.Proofs.YtmlhekfkniibmaaDoor

/- Whether there is a plan: no span is crowded; a quick reckoning; the examples that each law ends with. -/
namespace Go.Proofs.YtmlhekfkniibmaaDoor
open Go Go.Proofs.YtmlhekfkniibmaaDoor.AX

theorem fcS_iff (k : Int) (l : List (Int × Int)) : ∀ (n : Nat) (a b : Int), okSpan a b → spanM a b < n →
    (fcS k l n a b = (24, 24) ↔ ∀ a' b' : Int, 0 ≤ a' → a' ≤ b' → b' ≤ 23 → (a < a' ∨ a = a' ∧ b ≤ b') → crowdedS a' b' k l = false)
  | 0, a, b, _, h => by omega
  | n + 1, a, b, hab, hn => by
    unfold fcS
    rcases hab with hin | ⟨rfl, rfl⟩
    · have hne : (a == 24 && b == 24) = false := by
        rw [Bool.and_eq_false_iff]; left; simp; omega
      rw [hne, Bool.false_or]
      obtain ⟨g1, g2⟩ := next_ok hin
      cases hc : crowdedS a b k l with
      | true =>
        rw [if_pos rfl]
        constructor
        · intro h; cases h; omega
        · intro h
          have := h a b hin.1 hin.2.1 hin.2.2 (.inr ⟨rfl, by omega⟩)
          rw [hc] at this; cases this
      | false =>
        rw [if_neg (by decide), fcS_iff k l n _ _ g1 (by omega)]
        constructor
        · intro h a' b' h1 h2 h3 h4
          by_cases he : a' = a ∧ b' = b
          · rw [he.1, he.2]; exact hc
          · refine h a' b' h1 h2 h3 ?_
            unfold nextS
            split
            · rcases h4 with h4 | h4
              · exact .inl h4
              · exact .inr ⟨h4.1, by simp only; omega⟩
            · simp only; omega
        · intro h a' b' h1 h2 h3 h4
          refine h a' b' h1 h2 h3 ?_
          unfold nextS at h4
          split at h4
          · simp only at h4; omega
          · simp only at h4; omega
    · simp
      intro a' b' h1 h2 h3 h4
      omega
theorem possS_iff (k : Int) (l : List (Int × Int)) : possS k l = true ↔ ∀ a b : Int, 0 ≤ a → a ≤ b → b ≤ 23 → crowdedS a b k l = false := by
  have h := fcS_iff k l 601 0 0 (.inl (by omega)) (by decide)
  have e : possS k l = true ↔ firstS k l = (24, 24) := by
    unfold possS
    rw [Bool.and_eq_true, beq_iff_eq, beq_iff_eq]
    constructor
    · rintro ⟨h1, h2⟩; rw [← h1]; exact Prod.ext rfl (by simp [h1, h2])
    · intro h; rw [h]; exact ⟨rfl, rfl⟩
  rw [e]
  refine h.trans ⟨fun g a b h1 h2 h3 => g a b h1 h2 h3 (by omega), fun g a b h1 h2 h3 _ => g a b h1 h2 h3⟩

/-! ### A quick reckoning -/
noncomputable def cntNH (a b : Nat) (l : List (Nat × Nat)) : Nat := List.rec 0 (fun h _ ih => bif Nat.ble a h.1 then bif Nat.ble h.2 b then Nat.succ ih else ih else ih) l
def natL (l : List (Nat × Nat)) : List (Int × Int) := l.map fun h => ((h.1 : Int), (h.2 : Int))
theorem cntN_eq (a b : Nat) : ∀ l : List (Nat × Nat), cntNH a b l = holdsS a b (natL l)
  | [] => rfl
  | h :: l => by
    have ih := cntN_eq a b l
    have e : cntNH a b (h :: l) = bif Nat.ble a h.1 then bif Nat.ble h.2 b then Nat.succ (cntNH a b l) else cntNH a b l else cntNH a b l := rfl
    rw [e, ih]
    simp only [holdsS, natL, List.map_cons, List.countP_cons, inS]
    by_cases h1 : a ≤ h.1
    · rw [Nat.ble_eq_true_of_le h1]
      by_cases h2 : h.2 ≤ b
      · rw [Nat.ble_eq_true_of_le h2]
        simp [Int.ofNat_le.2 h1, Int.ofNat_le.2 h2]
      · have : Nat.ble h.2 b = false := by
          cases hb : Nat.ble h.2 b with
          | false => rfl
          | true => exact absurd (Nat.le_of_ble_eq_true hb) h2
        rw [this]
        simp [h2]
    · have : Nat.ble a h.1 = false := by
        cases hb : Nat.ble a h.1 with
        | false => rfl
        | true => exact absurd (Nat.le_of_ble_eq_true hb) h1
      rw [this]
      simp [h1]
noncomputable def possN (k : Nat) (l : List (Nat × Nat)) : Bool := (List.range 24).all fun a => (List.range 24).all fun b => bif Nat.ble a b then Nat.ble (cntNH a b l) (Nat.mul (Nat.sub (Nat.succ b) a) k) else true
theorem possN_eq (k : Nat) (l : List (Nat × Nat)) : possN k l = possS k (natL l) := by
  rw [Bool.eq_iff_iff, possS_iff]
  unfold possN
  simp only [List.all_eq_true, List.mem_range]
  have hmul : ∀ a b : Nat, a ≤ b → ((b : Int) - a + 1) * (k : Int) = ((b + 1 - a) * k : Nat) := by
    intro a b hab
    rw [Int.natCast_mul]; congr 1; omega
  constructor
  · intro h a b h1 h2 h3
    obtain ⟨a, rfl⟩ := Int.eq_ofNat_of_zero_le h1
    obtain ⟨b, rfl⟩ := Int.eq_ofNat_of_zero_le (by omega : 0 ≤ b)
    have := h a (by omega) b (by omega)
    rw [Nat.ble_eq_true_of_le (by omega), cond_true] at this
    have := Nat.le_of_ble_eq_true this
    rw [cntN_eq] at this
    unfold crowdedS
    rw [hmul a b (by omega)]
    simp only [decide_eq_false_iff_not, Int.not_lt]
    exact Int.ofNat_le.2 this
  · intro h a ha b hb
    cases hab : Nat.ble a b with
    | false => rfl
    | true =>
      have hab := Nat.le_of_ble_eq_true hab
      have := h a b (by omega) (by omega) (by omega)
      unfold crowdedS at this
      rw [hmul a b hab, decide_eq_false_iff_not, Int.not_lt] at this
      rw [cond_true, cntN_eq]
      exact Nat.ble_eq_true_of_le (Int.ofNat_le.1 this)
noncomputable def crowdedN (a b k : Nat) (l : List (Nat × Nat)) : Bool := !(Nat.ble (cntNH a b l) (Nat.mul (Nat.sub (Nat.succ b) a) k))
theorem crowdedN_eq {a b : Nat} (hab : a ≤ b) (k : Nat) (l : List (Nat × Nat)) : crowdedN a b k l = crowdedS a b k (natL l) := by
  have hmul : ((b : Int) - a + 1) * (k : Int) = ((b + 1 - a) * k : Nat) := by
    rw [Int.natCast_mul]; congr 1; omega
  unfold crowdedN crowdedS
  rw [hmul, cntN_eq]
  cases hb : Nat.ble (holdsS a b (natL l)) (Nat.mul (Nat.sub (Nat.succ b) a) k) with
  | true =>
    have := Nat.le_of_ble_eq_true hb
    symm
    simp only [Bool.not_true, decide_eq_false_iff_not, Int.not_lt]
    exact Int.ofNat_le.2 this
  | false =>
    symm
    simp only [Bool.not_false, decide_eq_true_eq]
    refine Int.ofNat_lt.2 (Nat.lt_of_not_le fun h => ?_)
    have : Nat.ble (holdsS a b (natL l)) (Nat.mul (Nat.sub (Nat.succ b) a) k) = true := Nat.ble_eq_true_of_le h
    rw [hb] at this; cases this
noncomputable def fcN (k : Nat) (l : List (Nat × Nat)) (n : Nat) : Nat → Nat → Nat × Nat :=
  Nat.rec (fun a b => (a, b)) (fun _ ih a b => bif (bif Nat.beq a 24 then Nat.beq b 24 else false) then (a, b) else bif crowdedN a b k l then (a, b) else bif Nat.ble b 22 then forceN (Nat.succ b) fun b => ih a b else forceN (Nat.succ a) fun a => ih a a) n
theorem fcN_eq (k : Nat) (l : List (Nat × Nat)) : ∀ (n a b : Nat), a ≤ b → b ≤ 24 → (a = 24 → b = 24) → fcS k (natL l) n a b = (((fcN k l n a b).1 : Int), ((fcN k l n a b).2 : Int))
  | 0, a, b, _, _, _ => rfl
  | n + 1, a, b, hab, hb, h24 => by
    have e : fcN k l (n + 1) a b = bif (bif Nat.beq a 24 then Nat.beq b 24 else false) then (a, b) else bif crowdedN a b k l then (a, b) else bif Nat.ble b 22 then forceN (Nat.succ b) fun b => fcN k l n a b else forceN (Nat.succ a) fun a => fcN k l n a a := rfl
    rw [e]
    simp only [forceN_eq]
    unfold fcS
    rw [crowdedN_eq hab]
    by_cases hp : a = 24 ∧ b = 24
    · obtain ⟨rfl, rfl⟩ := hp
      simp
    · have e1 : (bif Nat.beq a 24 then Nat.beq b 24 else false) = false := by
        cases h : Nat.beq a 24 with
        | false => rfl
        | true =>
          have := Nat.eq_of_beq_eq_true h
          exact absurd ⟨this, h24 this⟩ hp
      have e2 : ((a : Int) == 24 && (b : Int) == 24) = false := by
        rw [Bool.and_eq_false_iff]; left; simp; omega
      rw [e1, e2, Bool.false_or, cond_false]
      cases hc : crowdedS a b k (natL l) with
      | true => simp
      | false =>
        simp only [Bool.false_eq_true, if_false, cond_false]
        unfold nextS
        by_cases h22 : b ≤ 22
        · rw [Nat.ble_eq_true_of_le h22, cond_true, if_pos (by omega)]
          exact fcN_eq k l n a (b + 1) (by omega) (by omega) (by omega)
        · have : Nat.ble b 22 = false := by
            cases hb : Nat.ble b 22 with
            | false => rfl
            | true => exact absurd (Nat.le_of_ble_eq_true hb) h22
          rw [this, cond_false, if_neg (by omega)]
          exact fcN_eq k l n (a + 1) (a + 1) (by omega) (by omega) (by omega)
theorem firstS_nat (k : Nat) (l : List (Nat × Nat)) : firstS k (natL l) = (((fcN k l 601 0 0).1 : Int), ((fcN k l 601 0 0).2 : Int)) := fcN_eq k l 601 0 0 (by omega) (by omega) (by omega)
end Go.Proofs.YtmlhekfkniibmaaDoor

/- The examples that each law ends with. -/
namespace Go.Proofs.YtmlhekfkniibmaaDoor
open Go Go.Proofs.YtmlhekfkniibmaaDoor.AX

/-- Heaps read off their cells. -/
def readN : List AV → Option (List (Nat × Nat))
  | [] => some []
  | .int .i64 (.ofNat a) :: .int .i64 (.ofNat b) :: rest => match readN rest with
    | some l => some ((a, b) :: l)
    | none => none
  | _ => none
theorem readN_get : ∀ {vs : List AV} {l : List (Nat × Nat)}, readN vs = some l → vs.length = l.length * 2 ∧ ∀ i (hi : i < l.length), (vs.drop (i * 2)).take 2 = two l[i].1 l[i].2
  | [], l, h => by
    simp [readN] at h; subst h
    exact ⟨rfl, fun i hi => by simp at hi⟩
  | [_], l, h => by simp [readN] at h
  | x :: y :: rest, l, h => by
    unfold readN at h
    split at h
    case h_1 => rename_i h0; simp at h0
    case h_3 => cases h
    rename_i a b rest' heq
    simp only [List.cons.injEq] at heq
    obtain ⟨rfl, rfl, rfl⟩ := heq
    split at h
    case h_2 => cases h
    rename_i l' hl
    cases h
    obtain ⟨h1, h2⟩ := readN_get hl
    refine ⟨by simp [h1]; omega, fun i hi => ?_⟩
    cases i with
    | zero => simp [two]
    | succ i =>
      have := h2 i (by simpa using hi)
      rw [show (i + 1) * 2 = i * 2 + 1 + 1 by omega, List.drop_succ_cons, List.drop_succ_cons, this]
      simp
/-- Heaps and hands read off a call's arguments. -/
noncomputable def heapsX {α : Type} (args : List AV) (H : AH) (no : α) (k : Nat → List (Nat × Nat) → α) : α :=
  match args with
  | [.slice r off len ver sz _, .int .i64 (.ofNat h)] =>
    bif Nat.ble len 1000 && Nat.ble h 1000 then
      match gfind H 0 with
      | some [.int .i64 (.ofNat 24), .int .i64 (.ofNat 24)] =>
        match r with
        | none => bif Nat.beq len 0 then k h [] else no
        | some r => bif Nat.beq sz 2 then
            match ldn H r ver (len * 2) off with
            | some vs => match readN vs with
              | some l => k h l
              | none => no
            | none => no
          else no
      | _ => no
    else no
  | _ => no
theorem hs_of {H : AH} {r off len ver : Nat} {full : Bool} {vs : List AV} {l : List (Nat × Nat)} (h : ldn H r ver (len * 2) off = some vs) (hl : readN vs = some l) : l.length = len ∧ Hs H (.slice (some r) off len ver 2 full) (natL l) := by
  obtain ⟨h1, h2⟩ := ldn_part h
  obtain ⟨h3, h4⟩ := readN_get hl
  have hlen : l.length = len := by omega
  refine ⟨hlen, some r, off, ver, 2, full, by simp [natL, hlen], fun i hi => ⟨r, rfl, rfl, ?_⟩⟩
  have hi' : i < l.length := by simpa [natL] using hi
  rw [h2 (i * 2) 2 (by omega), h4 i hi']
  simp [cells, natL]
theorem heapsX_ok {α : Type} {args : List AV} {H : AH} {no : Option α} {k : Nat → List (Nat × Nat) → Option α} {r : α} (h : heapsX args H no k = some r) : no = some r ∨
    ∃ v n l, args = [v, .int .i64 (.ofNat n)] ∧ l.length ≤ 1000 ∧ n ≤ 1000 ∧ HasG gs H ∧ Hs H v (natL l) ∧ k n l = some r := by
  unfold heapsX at h
  split at h
  case h_2 => exact .inl h
  rename_i r0 off len ver sz full n
  cases hb : Nat.ble len 1000 && Nat.ble n 1000 with
  | false => rw [hb] at h; exact .inl h
  | true =>
    rw [hb, cond_true] at h
    simp only [Bool.and_eq_true] at hb
    have hl1 := Nat.le_of_ble_eq_true hb.1
    have hk1 := Nat.le_of_ble_eq_true hb.2
    split at h
    case h_2 => exact .inl h
    rename_i hg
    have hG : HasG gs H := by
      intro x hx
      simp only [gs, List.mem_singleton] at hx
      subst hx
      exact ⟨hg, .cons (.int _ _) (.cons (.int _ _) .nil)⟩
    split at h
    · cases h0 : Nat.beq len 0 with
      | false => rw [h0] at h; exact .inl h
      | true =>
        have := Nat.eq_of_beq_eq_true h0
        subst this
        rw [h0, cond_true] at h
        exact .inr ⟨_, n, [], rfl, by simp, hk1, hG, ⟨none, off, ver, sz, full, rfl, fun i hi => by simp [natL] at hi⟩, h⟩
    · rename_i r1
      cases h0 : Nat.beq sz 2 with
      | false => rw [h0] at h; exact .inl h
      | true =>
        have := Nat.eq_of_beq_eq_true h0
        subst this
        rw [h0, cond_true] at h
        split at h
        case h_2 => exact .inl h
        rename_i vs hvs
        split at h
        case h_2 => exact .inl h
        rename_i l hl
        obtain ⟨h1, h2⟩ := hs_of (full := full) hvs hl
        exact .inr ⟨_, n, l, rfl, by omega, hk1, hG, h2, h⟩
noncomputable def possX (args : List AV) (H : AH) : Option (AV × AH) := heapsX args H none fun n l => some (.bool (possN n l), H)
noncomputable def firstX (args : List AV) (H : AH) : Option (AV × AH) := heapsX args H none fun n l => Prod.rec (fun a b => forceN a fun a => forceN b fun b => some (.agg [.int .i64 (.ofNat a), .int .i64 (.ofNat b)], H)) (fcN n l 601 0 0)
theorem possX_ok {args : List AV} {H : AH} {v : AV} {H' : AH} (h : possX args H = some (v, H')) : AC Tryd.prog 66 args H fun v' H2 => v' = v ∧ H2 = H' := by
  rcases heapsX_ok h with h | ⟨u, n, l, rfl, hl, hn, hG, hH, h⟩
  · cases h
  · cases h
    refine possible_ac n u (natL l) H _ (by simp [natL]; omega) hH ⟨Int.natCast_nonneg n, Int.ofNat_le.2 hn⟩ hG ⟨?_, rfl⟩
    rw [possN_eq]
theorem firstX_ok {args : List AV} {H : AH} {v : AV} {H' : AH} (h : firstX args H = some (v, H')) : AC Tryd.prog 89 args H fun v' H2 => v' = v ∧ H2 = H' := by
  rcases heapsX_ok h with h | ⟨u, n, l, rfl, hl, hn, hG, hH, h⟩
  · cases h
  · simp only [forceN_eq] at h
    cases h
    refine firstCrowded_q n u (natL l) H (by simp [natL]; omega) hH ⟨Int.natCast_nonneg n, Int.ofNat_le.2 hn⟩ hG _ ⟨?_, rfl⟩
    rw [firstS_nat]; rfl
/-- The context in which plans are reckoned at once. -/
noncomputable def cxp : Cx Tryd.prog where
  good := goodT
  keep := keepT
  ext f args H := bif Nat.beq f 66 then possX args H else bif Nat.beq f 89 then firstX args H else none
theorem cxp_ok : cxp.Ok where
  mixed := cx_ok.mixed
  ord f h := cx_ok.ord f h
  ext f args H v H' h := by
    simp only [cxp] at h
    cases hf : Nat.beq f 66 with
    | true =>
      have := Nat.eq_of_beq_eq_true hf
      subst this
      rw [hf] at h
      exact possX_ok h
    | false =>
      rw [hf, cond_false] at h
      cases hf2 : Nat.beq f 89 with
      | true =>
        have := Nat.eq_of_beq_eq_true hf2
        subst this
        rw [hf2] at h
        exact firstX_ok h
      | false => rw [hf2] at h; cases h

set_option maxRecDepth 100000 in
theorem works_run : runZ cxp 3000 10 [] (gRows gs) = some (.bool true, gRows gs) := by kernel_rfl
set_option maxRecDepth 100000 in
theorem works_ac (H : AH) (Q : AV → AH → Prop) (hg : HasG gs H) (h : Q (.bool true) H) : AC Tryd.prog 10 [] H Q := AC_kernG cxp_ok 3000 gs hg works_run .nil (.bool _) h
end Go.Proofs.YtmlhekfkniibmaaDoor

/- Who goes home; two blends that are the same. -/
namespace Go.Proofs.YtmlhekfkniibmaaDoor
open Go Go.Proofs.YtmlhekfkniibmaaDoor.AX

theorem idx_g {l : List Int} (hd : l.Nodup) {p : Nat} (hp : p < l.length) : idx (g l p) l = p := by
  have h1 : g l p ∈ l := by rw [g_lt hp]; simp
  obtain ⟨q, hq⟩ : ∃ q : Nat, idx (g l p) l = q := ⟨(idx (g l p) l).toNat, by have := idx_mem h1; omega⟩
  obtain ⟨h2, h3⟩ := idx_get hq
  rw [hq, g_inj hd h2 hp h3]
theorem okB_mk {n k : Nat} (h1 : 1 ≤ n) (h2 : n ≤ 20) (h3 : 1 ≤ k) (h4 : k ≤ 1000000000) : okB n k := ⟨by omega, by omega⟩
theorem ls_len {H : AH} {v : AV} {l : List Int} (h : Ls H v l) : aLen Tryd.prog 26 v = some (.int .i64 l.length) := by
  obtain ⟨r, off, ver, sz, full, rfl, -⟩ := h
  exact len26 ..
theorem ls_ix {H : AH} {v : AV} {l : List Int} (h : Ls H v l) {i : Nat} (hi : i < l.length) : ∃ r p ver, (∀ k, aIndexAddr Tryd.prog 26 v (.int k (i : Int)) = some (.ptr r p ver)) ∧ ld H r p ver = some (.int .i64 (g l i)) := by
  obtain ⟨r, off, ver, sz, full, rfl, hld⟩ := h
  obtain ⟨r', rfl, rfl, hx⟩ := hld i hi
  rw [← g_lt hi] at hx
  exact ⟨r', off + i, ver, fun k => by simp [hi], hx⟩
theorem homI_ok {n : Int} {l : List Int} (h1 : ∀ j, j < l.length → 0 ≤ g l j ∧ g l j < n) (h2 : ∀ j, 0 < j → j < l.length → g l (j - 1) < g l j) : ∀ m i, i + m ≤ l.length → homI n l m i = 0
  | 0, _, _ => rfl
  | m + 1, i, h => by
    simp only [homI]
    rw [if_pos (h1 i (by omega)), if_neg (fun e => by have := h2 i e.1 (by omega); omega)]
    exact homI_ok h1 h2 m (i + 1) (by omega)
theorem homeE_ok {n : Int} {l : List Int} (hn : 1 ≤ n ∧ n ≤ 20) (h1 : ∀ x ∈ l, 0 ≤ x ∧ x < n) (h2 : l.Pairwise (· < ·)) : homeE n l = 0 := by
  unfold homeE
  rw [if_pos hn]
  refine homI_ok (fun j hj => h1 _ (by rw [g_lt hj]; simp)) (fun j j0 hj => ?_) _ _ (by omega)
  rw [g_lt (by omega), g_lt hj]
  exact (List.pairwise_iff_getElem.1 h2) (j - 1) j (by omega) hj (by omega)
theorem WhoN_ac (n k x : Nat) (h1 : 1 ≤ n) (h2 : n ≤ 20) (h3 : 1 ≤ k) (h4 : k ≤ 1000000000) (hx : x < n) (H : AH) (Q : AV → AH → Prop) (h : ∀ H', Ext H H' → Q (.tuple [.int .i64 (g (orderS n k) x), .int .i64 0]) H') : AC Tryd.prog 15 [.int .i64 n, .int .i64 k, .int .i64 x] H Q := by
  refine Who_ac n k x H Q ?_
  have hk : okO n k x := ⟨okB_mk h1 h2 h3 h4, by omega, by omega⟩
  rw [oneE_zero hk]
  unfold whoP
  rw [if_pos hk, Int.toNat_natCast, Int.toNat_natCast, Int.toNat_natCast]
  exact h
theorem WhenN_ac (n k p : Nat) (x : Int) (h1 : 1 ≤ n) (h2 : n ≤ 20) (h3 : 1 ≤ k) (h4 : k ≤ 1000000000) (hp : p < n) (hx : x = g (orderS n k) p) (H : AH) (Q : AV → AH → Prop) (h : ∀ H', Ext H H' → Q (.tuple [.int .i64 p, .int .i64 0]) H') : AC Tryd.prog 7 [.int .i64 n, .int .i64 k, .int .i64 x] H Q := by
  refine When_ac n k x H Q ?_
  have hl := orderS_len n k
  have hm : x ∈ orderS n k := by rw [hx, g_lt (by omega)]; simp
  have hr := mem_allS.1 ((orderS_perm n k).mem_iff.1 hm)
  have hk : okO n k x := ⟨okB_mk h1 h2 h3 h4, hr.1, hr.2⟩
  rw [oneE_zero hk]
  unfold whenP
  rw [if_pos hk, Int.toNat_natCast, Int.toNat_natCast, hx, idx_g ((orderS_perm n k).nodup_iff.2 (allS_nodup n)) (by omega)]
  exact h

/-- Those among the first of the order, ascending. -/
def hsU (n k m i : Nat) : List Int := (allS i).filter fun x => decide (idx x (orderS n k) < m)
def hs (n k m : Nat) : List Int := hsU n k m n
theorem allS_add (i : Nat) : allS (i + 1) = allS i ++ [(i : Int)] := by simp [allS, List.range_succ]
theorem hsU_add (n k m i : Nat) : hsU n k m (i + 1) = hsU n k m i ++ if idx i (orderS n k) < m then [(i : Int)] else [] := by
  unfold hsU
  rw [allS_add, List.filter_append]
  by_cases h : idx i (orderS n k) < m <;> simp [h]
theorem hsU_len (n k m i : Nat) : (hsU n k m i).length ≤ i := by
  have := List.length_filter_le (fun x => decide (idx x (orderS n k) < m)) (allS i)
  rw [allS_len] at this
  exact this
theorem order_nodup (n k : Nat) : (orderS n k).Nodup := (orderS_perm n k).nodup_iff.2 (allS_nodup n)
theorem allS_up (n : Nat) : (allS n).Pairwise (· < ·) := by
  rw [List.pairwise_iff_getElem]
  intro i j hi hj hij
  simp [allS]
  omega
theorem hs_up (n k m : Nat) : (hs n k m).Pairwise (· < ·) := List.Pairwise.filter _ (allS_up n)
theorem hs_in {n k m : Nat} {x : Int} (h : x ∈ hs n k m) : 0 ≤ x ∧ x < n := mem_allS.1 ((List.mem_filter.1 h).1)
theorem hs_mem {n k m : Nat} {x : Int} : x ∈ hs n k m ↔ x ∈ (orderS n k).take m := by
  unfold hs hsU
  rw [List.mem_filter, decide_eq_true_iff]
  have hol := orderS_len n k
  constructor
  · rintro ⟨h1, h2⟩
    have h3 := (orderS_perm n k).mem_iff.2 h1
    obtain ⟨p, hp⟩ : ∃ p : Nat, idx x (orderS n k) = p := ⟨(idx x (orderS n k)).toNat, by have := idx_mem h3; omega⟩
    obtain ⟨h4, h5⟩ := idx_get hp
    refine List.mem_iff_getElem.2 ⟨p, by simp; omega, ?_⟩
    have h6 : ((orderS n k).take m)[p]'(by simp; omega) = g (orderS n k) p := by rw [g_lt h4]; simp
    exact h6.trans h5
  · intro h
    obtain ⟨p, hp, rfl⟩ := List.mem_iff_getElem.1 h
    simp only [List.length_take] at hp
    have hpl : p < (orderS n k).length := by omega
    have h1 : ((orderS n k).take m)[p]'(by simp; omega) = g (orderS n k) p := by rw [g_lt hpl]; simp
    rw [h1]
    have h2 := idx_g (order_nodup n k) hpl
    refine ⟨(orderS_perm n k).mem_iff.1 (by rw [g_lt hpl]; simp), by rw [h2]; omega⟩
theorem hs_perm (n k m : Nat) : (hs n k m).Perm ((orderS n k).take m) :=
  (List.perm_ext_iff_of_nodup ((hs_up n k m).imp (fun h e => by omega)) (List.Pairwise.sublist (List.take_sublist _ _) (order_nodup n k))).2 fun _ => hs_mem
theorem hs_len {n k m : Nat} (hm : m ≤ n) : (hs n k m).length = m := by
  rw [(hs_perm n k m).length_eq, List.length_take, orderS_len]; omega
theorem hs_first {n k m : Nat} (hm : m ≤ n) : FirstIs n (hs n k m) k := by
  intro x hx
  rw [hs_len hm] at hx
  exact hs_mem.2 hx
theorem hs_again {n k m f : Nat} (hm : m ≤ n) (h : FirstIs n (hs n k m) f) : hs n f m = hs n k m := by
  unfold FirstIs at h
  rw [hs_len hm] at h
  have hp := perm_of_sub (List.Pairwise.sublist (List.take_sublist _ _) (order_nodup n f)) h (by rw [hs_len hm, List.length_take, orderS_len]; omega)
  have hp2 := (hs_perm n f m).trans hp
  exact sorted_ext (hs_up n f m) (hs_up n k m) fun z => hp2.mem_iff
theorem hs_next {n k m : Nat} (hm : m < n) {x : Int} (hx : x ∈ hs n k (m + 1)) : ¬ (x ∈ hs n k m ↔ x = g (orderS n k) m) := by
  have hol := orderS_len n k
  have h1 : (orderS n k).take (m + 1) = (orderS n k).take m ++ [g (orderS n k) m] := by rw [g_lt (by omega), List.take_add_one, List.getElem?_eq_getElem (by omega)]; rfl
  have h2 : ((orderS n k).take (m + 1)).Nodup := List.Pairwise.sublist (List.take_sublist (m + 1) _) (order_nodup n k)
  rw [hs_mem, h1, List.mem_append, List.mem_singleton] at hx
  rw [h1, List.nodup_append] at h2
  have h3 := h2.2.2
  rw [hs_mem]
  intro h
  rcases hx with hx | hx
  · exact h3 x hx _ (by simp) (h.1 hx)
  · exact h3 x (h.2 hx) _ (by simp) hx
theorem hs_ok {n k m : Nat} (h1 : 1 ≤ n) (h2 : n ≤ 20) : homeE n (hs n k m) = 0 := homeE_ok (by omega) (fun x hx => hs_in hx) (hs_up n k m)

theorem checkLeaves_ac (n : Nat) (H : AH) (Q : AV → AH → Prop) (h1 : 1 ≤ n) (h2 : n ≤ 10) (h : Q (.int .i64 0) H) : AC Tryd.prog 30 [.int .i64 n] H Q := by
  refine L_body 9 Tryd.func30 rfl rfl ?_
  refine L_reg [0] (fun K hK => ?_)
  simp
  apply hK; clear hK K
  have e1 : ¬ ((n : Int) < 1) := by omega
  have e2 : ¬ ((10 : Int) < n) := by omega
  have e3 : n ≠ 0 := by omega
  have e4 : ¬ (10 < n) := by omega
  refine L_reg [8] (fun K hK => ?_)
  simp [e1, e2, pickV]
  apply hK; clear hK K
  refine L_false (by simp) ?_
  refine L_reg [2] (fun K hK => ?_)
  simp
  apply hK; clear hK K
  exact L_ret ⟨.inr rfl, _, rfl, h⟩
theorem CheckB_ac (n : Nat) (v : AV) (l : List Int) (H : AH) (Q : AV → AH → Prop) (h1 : 1 ≤ n) (h2 : n ≤ 10) (hr : ∀ x ∈ l, 0 ≤ x ∧ x < (n : Int)) (ho : l.Pairwise (· < ·)) (hlen : l.length ≤ 1000000) (hv : Ls H v l) (h : Q (.int .i64 0) H) : AC Tryd.prog 12 [.int .i64 n, v] H Q := by
  have hr' : ∀ j, j < l.length → 0 ≤ g l j ∧ g l j < (n : Int) := fun j hj => hr _ (by rw [g_lt hj]; simp)
  refine L_body 32 Tryd.func12 rfl rfl ?_
  refine L_reg [0, 1] (fun K hK => ?_)
  simp
  apply hK; clear hK K
  refine L_reg [0, 1, 5] (fun K hK => ?_)
  simp [okFn_low]
  refine checkLeaves_ac n _ _ h1 h2 ?_
  simp
  apply hK; clear hK K
  refine L_reg [0, 1, 5, 12] (fun K hK => ?_)
  simp
  apply hK; clear hK K
  refine L_false (by simp) ?_
  refine L_reg [0, 1, 6] (fun K hK => ?_)
  simp
  apply hK; clear hK K
  have hvl := ls_len hv
  refine L_reg [0, 6, 14, 15, 16] (fun K hK => ?_)
  simp [hvl]
  apply hK; clear hK K
  refine L_block (L_loopV [6, 16] (fun q vs H' => ∃ (i : Nat) (b : Int), q = l.length - i ∧ i ≤ l.length ∧ (i < l.length → b < g l i) ∧ vs = [.int .i64 b, .int .i64 i] ∧ H = H') _ [.int .i64 (-1), .int .i64 0] rfl ⟨0, -1, rfl, by omega, fun e => by have := hr' 0 e; omega, rfl, rfl⟩ ?_)
  rintro q _ _ ⟨i, b, rfl, hi, hb, rfl, rfl⟩
  refine L_reg [0, 6, 14, 15, 16, 17] (fun K hK => ?_)
  simp
  apply hK; clear hK K
  refine L_dec (i < l.length) (by simp) (fun hlt => ?_) (fun hge => L_exit ?_)
  · refine L_block ?_
    obtain ⟨rz, pz, vz, hix, hldz⟩ := ls_ix hv hlt
    obtain ⟨x1, x2⟩ := hr' i hlt
    have x3 := hb hlt
    have y1 : ¬ (g l i < 0) := by omega
    have y2 : ¬ ((n : Int) ≤ g l i) := by omega
    have y3 : ¬ (g l i ≤ b) := by omega
    refine L_reg [0, 6, 8, 14, 15, 16] (fun K hK => ?_)
    simp [hix, hldz]
    apply hK; clear hK K
    refine L_reg [0, 6, 8, 14, 15, 16, 26] (fun K hK => ?_)
    simp [y1, y2, pickV]
    apply hK; clear hK K
    refine L_false (by simp) ?_
    refine L_reg [0, 8, 14, 15, 16, 29] (fun K hK => ?_)
    simp [y3]
    apply hK; clear hK K
    refine L_false (by simp) ?_
    refine L_reg [0, 6, 14, 15, 16] (fun K hK => ?_)
    simp
    apply hK; clear hK K
    refine L_reg [0, 6, 14, 15, 16] (fun K hK => ?_)
    simp [wrap_i64 (a := (i : Int) + 1) (by omega)]
    apply hK; clear hK K
    refine ⟨l.length - (i + 1), [.int .i64 (g l i), .int .i64 (i + 1 : Nat)], by omega, by simp, i + 1, g l i, rfl, by omega, fun e => ?_, rfl, rfl⟩
    rw [g_lt hlt, g_lt e]
    exact (List.pairwise_iff_getElem.1 ho) i (i + 1) hlt e (by omega)
  · refine L_reg [4] (fun K hK => ?_)
    simp
    apply hK; clear hK K
    exact L_ret ⟨.inr rfl, _, rfl, h⟩
theorem lack_same (l : List Int) : lack l l = [] := by
  unfold lack
  rw [List.filter_eq_nil_iff]
  intro x hx
  simp [hx]
theorem distance_ac (u v : AV) (l : List Int) (H : AH) (Q : AV → AH → Prop) (hlen : l.length ≤ 1000000) (hu : Ls H u l) (hv : Ls H v l) (h : ∀ H', Ext H H' → Q (.int .i64 0) H') : AC Tryd.prog 36 [u, v] H Q := by
  refine L_body 9 Tryd.func36 rfl rfl ?_
  refine L_reg [0, 1] (fun K hK => ?_)
  simp
  apply hK; clear hK K
  refine L_reg [4] (fun K hK => ?_)
  simp [okFn_low]
  refine lacking_ac u v l l H _ hlen hlen hu hv (fun w H1 hw E1 => ?_)
  rw [lack_same] at hw
  have hl : Ls H1 w [] := by
    rcases hw with hw | hw
    · exact hw.own.ls
    · exact hw.ls
  have hwl := ls_len hl
  simp [hwl]
  apply hK; clear hK K
  exact L_ret ⟨.inr rfl, _, rfl, h _ E1⟩
theorem checkTwo_ac (n : Nat) (u v : AV) (l : List Int) (H : AH) (Q : AV → AH → Prop) (h1 : 1 ≤ n) (h2 : n ≤ 10) (hr : ∀ x ∈ l, 0 ≤ x ∧ x < (n : Int)) (ho : l.Pairwise (· < ·)) (hlen : l.length ≤ 1000000) (hu : Ls H u l) (hv : Ls H v l) (h : Q (.int .i64 0) H) : AC Tryd.prog 35 [.int .i64 n, u, v] H Q := by
  refine L_body 26 Tryd.func35 rfl rfl ?_
  refine L_reg [0, 1, 2] (fun K hK => ?_)
  simp
  apply hK; clear hK K
  refine L_reg [0, 1, 2, 7] (fun K hK => ?_)
  simp [okFn_low]
  refine CheckB_ac n u l _ _ h1 h2 hr ho hlen hu ?_
  simp
  apply hK; clear hK K
  refine L_reg [0, 1, 2, 7, 13] (fun K hK => ?_)
  simp
  apply hK; clear hK K
  refine L_false (by simp) ?_
  refine L_reg [1, 2, 8] (fun K hK => ?_)
  simp [okFn_low]
  refine CheckB_ac n v l _ _ h1 h2 hr ho hlen hv ?_
  simp
  apply hK; clear hK K
  refine L_reg [1, 2, 8, 19] (fun K hK => ?_)
  simp
  apply hK; clear hK K
  refine L_false (by simp) ?_
  have ul := ls_len hu
  have vl := ls_len hv
  refine L_reg [25] (fun K hK => ?_)
  simp [ul, vl]
  apply hK; clear hK K
  refine L_false (by simp) ?_
  refine L_reg [6] (fun K hK => ?_)
  simp
  apply hK; clear hK K
  exact L_ret ⟨.inr rfl, _, rfl, h⟩
theorem Away_ac (n : Nat) (u v : AV) (l : List Int) (H : AH) (Q : AV → AH → Prop) (h1 : 1 ≤ n) (h2 : n ≤ 10) (hr : ∀ x ∈ l, 0 ≤ x ∧ x < (n : Int)) (ho : l.Pairwise (· < ·)) (hlen : l.length ≤ 1000000) (hu : Ls H u l) (hv : Ls H v l) (h : ∀ H', Ext H H' → Q (.tuple [.int .i64 0, .int .i64 0]) H') : AC Tryd.prog 14 [.int .i64 n, u, v] H Q := by
  refine L_body 19 Tryd.func14 rfl rfl ?_
  refine L_reg [0, 1, 2] (fun K hK => ?_)
  simp
  apply hK; clear hK K
  refine L_reg [1, 2, 8] (fun K hK => ?_)
  simp [okFn_low]
  refine checkTwo_ac n u v l _ _ h1 h2 hr ho hlen hu hv ?_
  simp
  apply hK; clear hK K
  refine L_reg [1, 2, 8, 14] (fun K hK => ?_)
  simp
  apply hK; clear hK K
  refine L_false (by simp) ?_
  refine L_reg [6, 7] (fun K hK => ?_)
  simp [okFn_low]
  refine distance_ac u v l _ _ hlen hu hv (fun H1 E1 => ?_)
  simp
  apply hK; clear hK K
  exact L_ret ⟨.inr rfl, _, rfl, h _ E1⟩
set_option maxRecDepth 100000 in
theorem home1_ac (n k m pn s : Nat) (h1 : 1 ≤ n) (h2 : n ≤ 10) (h3 : 1 ≤ k) (h4 : k ≤ 1000000) (hm : m ≤ n) (H : AH) (Q : AV → AH → Prop) (hp : H[pn]? = some (.row [.int .i64 n] 0 s false)) (h : ∀ v H', Ls H' v (hs n k m) → Ext H H' → Q (.tuple [v, .bool true]) H') : AC Tryd.prog 11 [.int .i64 m, .int .i64 k, .ptr pn 0 0] H Q := by
  have hol := orderS_len n k
  have hWhen := fun p x hp hx => WhenN_ac n k p x h1 (by omega) h3 (by omega) hp hx
  refine L_body 43 Tryd.func11 rfl rfl ?_
  have hl0 : ld H pn 0 0 = some (.int .i64 n) := by rw [ld_row hp]; rfl
  refine L_reg [0, 1, 2] (fun K hK => ?_)
  simp
  apply hK; clear hK K
  refine L_reg [0, 1, 2, 7] (fun K hK => ?_)
  simp
  apply hK; clear hK K
  refine L_reg [0, 1, 2, 7, 11, 12] (fun K hK => ?_)
  simp [hl0]
  apply hK; clear hK K
  refine L_block (L_loopV [7, 12] (fun q vs H' => ∃ (i : Nat) (v : AV), q = n - i ∧ i ≤ n ∧ vs = [v, .int .i64 i] ∧ OwnF H.length H' v ((hsU n k m i).map (.int .i64)) ∧ Ext H H') _ [.slice none 0 0 0 1 false, .int .i64 0] rfl ⟨0, _, rfl, by omega, rfl, .nil _ _, .refl _⟩ ?_)
  rintro q _ H1 ⟨i, v, rfl, hi, rfl, hO, hE⟩
  refine L_reg [0, 1, 2, 7, 11, 12, 13] (fun K hK => ?_)
  simp
  apply hK; clear hK K
  refine L_dec (i < n) (by simp) (fun hlt => ?_) (fun hge => L_exit ?_)
  · refine L_block ?_
    have hmi : (i : Int) ∈ orderS n k := (orderS_perm n k).mem_iff.2 (mem_allS.2 (by omega))
    obtain ⟨p, hpp⟩ : ∃ p : Nat, idx (i : Int) (orderS n k) = p := ⟨(idx (i : Int) (orderS n k)).toNat, by have := idx_mem hmi; omega⟩
    obtain ⟨g1, g2⟩ := idx_get hpp
    have hl1 : ld H1 pn 0 0 = some (.int .i64 n) := by rw [ld_row (hE.row hp)]; rfl
    have hul := hsU_len n k m i
    have hadd := hsU_add n k m i
    rw [hpp] at hadd
    refine L_reg [0, 1, 2, 7, 8, 11, 12] (fun K hK => ?_)
    simp
    apply hK; clear hK K
    refine L_reg [0, 1, 2, 7, 8, 9, 10, 11, 12] (fun K hK => ?_)
    simp [okFn_low, hl1]
    refine hWhen p i (by omega) g2.symm _ _ (fun H2 E2 => ?_)
    simp
    apply hK; clear hK K
    have hE2 := hE.trans E2
    refine L_reg [0, 1, 2, 7, 8, 9, 11, 12, 23] (fun K hK => ?_)
    simp
    apply hK; clear hK K
    refine L_false (by simp) ?_
    refine L_reg [0, 1, 2, 7, 8, 11, 12, 26] (fun K hK => ?_)
    simp
    apply hK; clear hK K
    refine L_dec (p < m) (by simp) (fun hlt2 => ?_) (fun hge2 => ?_)
    · rw [if_pos (by omega)] at hadd
      obtain ⟨v', H3, happ, hO2, hE3⟩ := ownF_append hE2 el26 el26 (x := .int .i64 (i : Int)) (m := 1) (ownF_ext hO E2) rfl (by rw [List.length_map]; omega)
      refine L_reg [0, 1, 2, 7, 11, 12] (fun K hK => ?_)
      simp [happ]
      apply hK; clear hK K
      refine L_reg [0, 1, 2, 7, 11, 12] (fun K hK => ?_)
      simp [wrap_i64 (a := (i : Int) + 1) (by omega)]
      apply hK; clear hK K
      exact ⟨n - (i + 1), [v', .int .i64 (i + 1 : Nat)], by omega, by simp, i + 1, v', rfl, by omega, rfl, by rw [hadd]; simpa using hO2, hE3⟩
    · rw [if_neg (by omega), List.append_nil] at hadd
      refine L_reg [0, 1, 2, 7, 11, 12] (fun K hK => ?_)
      simp [wrap_i64 (a := (i : Int) + 1) (by omega)]
      apply hK; clear hK K
      exact ⟨n - (i + 1), [v, .int .i64 (i + 1 : Nat)], by omega, by simp, i + 1, v, rfl, by omega, rfl, by rw [hadd]; exact ownF_ext hO E2, hE2⟩
  · have hin : i = n := by omega
    subst hin
    have hv : Ls H1 v (hs i k m) := hO.own.ls
    have hvl := ls_len hv
    rw [hs_len hm] at hvl
    have hl1 : ld H1 pn 0 0 = some (.int .i64 i) := by rw [ld_row (hE.row hp)]; rfl
    refine L_reg [5, 6] (fun K hK => ?_)
    simp [okFn_low, hvl, hl1]
    refine CheckB_ac i v (hs i k m) _ _ h1 h2 (fun x hx => hs_in hx) (hs_up i k m) (by rw [hs_len hm]; omega) hv ?_
    simp [pickV]
    apply hK; clear hK K
    exact L_ret ⟨.inr rfl, _, rfl, h _ _ hv hE⟩
/-- First, of those who are the first of some order. -/
theorem FirstH_ac (n k : Nat) (v : AV) (l : List Int) (h0 : homeE n l = 0) (hlen : l.length ≤ 1000000) (hk : 1 ≤ k) (hk2 : k ≤ 1000) (hF : FirstIs n l k) (H : AH) (Q : AV → AH → Prop) (hv : Ls H v l) (h : ∀ H' f, Ext H H' → 1 ≤ f → f ≤ k → FirstIs n l f → Q (.tuple [.int .i64 (f : Nat), .int .i64 0]) H') : AC Tryd.prog 13 [.int .i64 n, v] H Q := by
  refine First_ac n v l H Q hv hlen (fun H1 E1 => ⟨fun _ => ?_, fun e => absurd h0 e⟩)
  rw [Int.toNat_natCast]
  exact ⟨fun j j1 j2 j3 j4 => h H1 j E1 j1 (Nat.not_lt.1 fun e => j4 k hk e hF) j3, fun hno => absurd hF (hno k hk hk2)⟩
end Go.Proofs.YtmlhekfkniibmaaDoor

/- Orders are checked, and have codes. -/
namespace Go.Proofs.YtmlhekfkniibmaaDoor.Gr
open Go Go.Proofs.YtmlhekfkniibmaaDoor Go.Proofs.YtmlhekfkniibmaaDoor.AX

@[simp] theorem ixaG76 (r off ver : Nat) (k : IntKind) (i : Int) : aIndexAddr Tryd.prog 76 (.ptr r off ver) (.int k i) = if 0 ≤ i ∧ i < (7 : Nat) then some (.ptr r (off + i.toNat * 1) ver) else none := ixa_ar (by kernel_rfl) ..
def sn (done : List Int) : List AV := (List.range 7).map fun j : Nat => .bool (decide ((j : Int) ∈ done))
theorem ztG76 : zeroT Tryd.prog 76 = some (sn []) := by kernel_rfl
def chkS (n : Int) : List Int → List Int → Int
  | done, x :: l => if x < 0 ∨ n ≤ x then 2 else if x ∈ done then 6 else chkS n (done ++ [x]) l
  | _, [] => 0
def checkS (l : List Int) : Int := if l.length = 0 then 4 else if 7 < l.length then 3 else chkS l.length [] l
theorem get_set {H : AH} {r : Nat} {o o' : AObj} (h : H[r]? = some o) : (H.set r o')[r]? = some o' := by
  have := (List.getElem?_eq_some_iff.1 h).1
  simp [this]
theorem Ls.flat {H : AH} {v : AV} {l : List Int} (h : Ls H v l) (hne : 0 < l.length) : ∃ r off ver full, v = .slice (some r) off l.length ver 1 full ∧ ∀ i (hi : i < l.length), ld H r (off + i) ver = some (.int .i64 l[i]) := by
  obtain ⟨r, off, ver, sz, full, rfl, hl⟩ := h
  obtain ⟨r', rfl, rfl, -⟩ := hl 0 hne
  refine ⟨r', off, ver, full, rfl, fun i hi => ?_⟩
  obtain ⟨r2, h1, -, h3⟩ := hl i hi
  obtain rfl := Option.some.inj h1
  exact h3

set_option maxRecDepth 100000 in
theorem Check_ac (v : AV) (l : List Int) (H : AH) (Q : AV → AH → Prop) (hl : l.length ≤ 1000000) (hv : Ls H v l) (h : ∀ H', Ext H H' → Q (.int .i64 (checkS l)) H') : AC Tryd.prog 42 [v] H Q := by
  obtain ⟨I, hI, hz⟩ := zeroT_some ztG76
  obtain ⟨r0, off0, ver0, sz0, full0, hv0, -⟩ := id hv
  refine L_body 32 Tryd.func42 rfl rfl ?_
  refine L_reg [0] (fun K hK => ?_)
  simp
  apply hK; clear hK K
  refine L_reg [0, 8] (fun K hK => ?_)
  simp [hv0]
  apply hK; clear hK K
  rw [← hv0]
  unfold checkS at h
  refine L_dec ((l.length : Int) = 0) rfl (fun h0 => ?_) (fun h0 => ?_)
  · rw [if_pos (by omega)] at h
    refine L_reg [2] (fun K hK => ?_)
    simp
    apply hK; clear hK K
    exact L_ret ⟨.inr rfl, _, rfl, h _ (.refl _)⟩
  · rw [if_neg (by omega)] at h
    refine L_reg [0, 11] (fun K hK => ?_)
    simp [hv0]
    apply hK; clear hK K
    rw [← hv0]
    refine L_dec (7 < l.length) (by simp; omega) (fun h7 => ?_) (fun h7 => ?_)
    · rw [if_pos h7] at h
      refine L_reg [2] (fun K hK => ?_)
      simp
      apply hK; clear hK K
      exact L_ret ⟨.inr rfl, _, rfl, h _ (.refl _)⟩
    · rw [if_neg h7] at h
      obtain ⟨r, off, ver, full, rfl, hld⟩ := Ls.flat hv (by omega)
      clear hv0
      refine L_reg [0, 3] (fun K hK => ?_)
      simp [hI, hz]
      apply hK; clear hK K
      have hE0 : Ext H (H ++ [AObj.row (sn []) 0 0 false]) := .push _ _
      have h1 : (H ++ [AObj.row (sn []) 0 0 false])[H.length]? = some (.row (sn []) 0 0 false) := by simp
      generalize H ++ [AObj.row (sn []) 0 0 false] = H1 at hE0 h1 ⊢
      generalize hw : H.length = w at h1 ⊢
      refine L_reg [0, 3, 12, 13, 14] (fun K hK => ?_)
      simp
      apply hK; clear hK K
      refine L_block (L_loopV [14] (fun m vs H' => ∃ i : Nat, m = l.length - i ∧ i ≤ l.length ∧ chkS l.length [] l = chkS l.length (l.take i) (l.drop i) ∧ vs = [.int .i64 i] ∧ Ext H H' ∧ H'[w]? = some (.row (sn (l.take i)) 0 0 false)) _ [.int .i64 (0 : Nat)] rfl ⟨0, rfl, by omega, rfl, rfl, hE0, h1⟩ ?_)
      rintro m _ H2 ⟨i, rfl, hi, hvs, rfl, hE, hrow⟩
      refine L_reg [0, 3, 12, 13, 14, 15] (fun K hK => ?_)
      simp
      apply hK; clear hK K
      refine L_dec (i < l.length) (by simp) (fun hlt => ?_) (fun hge => L_exit ?_)
      · have hrd := hE.ld (hld i hlt)
        have htk : l.take (i + 1) = l.take i ++ [l[i]] := List.take_succ_eq_append_getElem hlt
        rw [List.drop_eq_getElem_cons hlt] at hvs
        simp only [chkS] at hvs
        generalize l[i] = x at hrd hvs htk
        refine L_block ?_
        refine L_reg [0, 3, 5, 12, 13, 14] (fun K hK => ?_)
        simp [hlt, hrd]
        apply hK; clear hK K
        by_cases hx0 : x < 0
        · rw [if_pos (.inl hx0)] at hvs
          refine L_reg [0, 3, 5, 12, 13, 14, 25] (fun K hK => ?_)
          simp [hx0, pickV]
          apply hK; clear hK K
          refine L_true (by simp) ?_
          refine L_reg [2] (fun K hK => ?_)
          simp
          apply hK; clear hK K
          exact L_ret ⟨.inr rfl, _, rfl, by simpa [hvs] using h _ hE⟩
        · refine L_reg [0, 3, 5, 12, 13, 14, 25] (fun K hK => ?_)
          simp [hx0, pickV]
          apply hK; clear hK K
          refine L_dec ((l.length : Int) ≤ x) (by simp) (fun hxn => ?_) (fun hxn => ?_)
          · rw [if_pos (.inr hxn)] at hvs
            refine L_reg [2] (fun K hK => ?_)
            simp
            apply hK; clear hK K
            exact L_ret ⟨.inr rfl, _, rfl, by simpa [hvs] using h _ hE⟩
          · rw [if_neg (by omega)] at hvs
            obtain ⟨z, rfl⟩ := Int.eq_ofNat_of_zero_le (show 0 ≤ x by omega)
            have hz7 : z < 7 := by omega
            have hz7i : (z : Int) < 7 := by omega
            have hcell : (sn (l.take i))[z]? = some (.bool (decide ((z : Int) ∈ l.take i))) := by simp [sn, hz7]
            have l2 : ld H2 w z 0 = some (.bool (decide ((z : Int) ∈ l.take i))) := by rw [ld_row hrow, hcell]; rfl
            have hst := store_row (P := Tryd.prog) (u := 4) (p := z) sc4 (x := .bool true) (y := .bool (decide ((z : Int) ∈ l.take i))) rfl hrow (by rw [hcell]; rfl)
            have hset : (sn (l.take i)).set z (.bool true) = sn (l.take (i + 1)) := by
              rw [htk]
              apply List.ext_getElem
              · simp [sn]
              · intro q h1 h2
                rw [List.getElem_set]
                simp only [sn, List.getElem_map, List.getElem_range]
                by_cases hq : z = q
                · subst hq; simp
                · rw [if_neg hq]
                  have : ¬ ((q : Int) = (z : Int)) := by omega
                  simp [this]
            rw [hset, Nat.zero_min] at hst
            refine L_reg [0, 3, 5, 12, 13, 14, 28] (fun K hK => ?_)
            simp [hz7i, l2]
            apply hK; clear hK K
            refine L_dec ((z : Int) ∈ l.take i) (by simp) (fun hm => ?_) (fun hm => ?_)
            · rw [if_pos hm] at hvs
              refine L_reg [2] (fun K hK => ?_)
              simp
              apply hK; clear hK K
              exact L_ret ⟨.inr rfl, _, rfl, by simpa [hvs] using h _ hE⟩
            · rw [if_neg hm] at hvs
              refine L_reg [0, 3, 12, 13, 14] (fun K hK => ?_)
              simp [hz7i, hst]
              apply hK; clear hK K
              refine L_reg [0, 3, 12, 13, 14] (fun K hK => ?_)
              simp [wrap_i64 (a := (i : Int) + 1) (by omega)]
              apply hK; clear hK K
              exact ⟨l.length - (i + 1), [.int .i64 (i + 1 : Nat)], by omega, by simp, i + 1, rfl, by omega, by rw [hvs, htk], rfl, hE.set _ (by omega), get_set hrow⟩
      · have : i = l.length := by omega
        subst this
        rw [List.drop_length] at hvs
        refine L_reg [2] (fun K hK => ?_)
        simp
        apply hK; clear hK K
        exact L_ret ⟨.inr rfl, _, rfl, by simpa [hvs, chkS] using h _ hE⟩
theorem Check_q (v : AV) (l : List Int) (H : AH) (hl : l.length ≤ 1000000) (hv : Ls H v l) (Q : AV → AH → Prop) (h : Q (.int .i64 (checkS l)) H) : AC Tryd.prog 42 [v] H Q :=
  AC.quiet (belB_int _ _ _ _) (fun Q h => Check_ac v l H Q hl hv h) Q h

def cnt (l : List Int) (q j : Nat) : Nat := ((l.drop (q + 1)).take j).countP fun e => decide (e < l[q]?.getD 0)
def crow (l : List Int) (i j : Nat) : List Int := (List.range l.length).map fun q => if q < i then (cnt l q l.length : Int) else if q = i then (cnt l q j : Int) else 0
def codeS (l : List Int) : List Int := (List.range l.length).map fun q => (cnt l q l.length : Int)
def codeR (l : List Int) : List Int := if checkS l = 0 then codeS l else []
theorem cnt_zero (l : List Int) (q : Nat) : cnt l q 0 = 0 := by simp [cnt]
theorem cnt_le (l : List Int) (q j : Nat) : cnt l q j ≤ j := Nat.le_trans (List.countP_le_length) (by simp; omega)
theorem crow_first (l : List Int) : crow l 0 0 = List.replicate l.length 0 := by
  apply List.ext_getElem
  · simp [crow]
  · intro q h1 h2
    simp [crow, cnt_zero]
theorem crow_get (l : List Int) {i j : Nat} (hi : i < l.length) : ((crow l i j).map (AV.int .i64))[i]? = some (.int .i64 (cnt l i j)) := by
  simp [crow, hi]
theorem crow_set (l : List Int) (i j j' : Nat) : ((crow l i j).map (AV.int .i64)).set i (.int .i64 (cnt l i j')) = (crow l i j').map (.int .i64) := by
  apply List.ext_getElem
  · simp [crow]
  · intro q h1 h2
    rw [List.getElem_set]
    simp only [crow, List.getElem_map, List.getElem_range]
    by_cases hq : i = q
    · subst hq; simp
    · rw [if_neg hq]
      have : ¬ (q = i) := fun h => hq h.symm
      simp [this]
theorem cnt_full (l : List Int) {i m : Nat} (h : l.length ≤ m + (i + 1)) : cnt l i m = cnt l i l.length := by
  unfold cnt
  rw [List.take_of_length_le (by simp; omega), List.take_of_length_le (by rw [List.length_drop]; omega)]
theorem crow_next (l : List Int) (i : Nat) : crow l i (l.length - (i + 1)) = crow l (i + 1) 0 := by
  apply List.ext_getElem
  · simp [crow]
  · intro q h1 h2
    simp only [crow, List.getElem_map, List.getElem_range]
    by_cases hq : q < i
    · rw [if_pos hq, if_pos (by omega)]
    · rw [if_neg hq]
      by_cases he : q = i
      · subst he
        rw [if_pos rfl, if_pos (by omega), cnt_full l (by omega)]
      · rw [if_neg he, if_neg (by omega)]
        split
        · rw [cnt_zero]; rfl
        · rfl
theorem crow_last (l : List Int) : crow l l.length 0 = codeS l := by
  apply List.ext_getElem
  · simp [crow, codeS]
  · intro q h1 h2
    simp only [crow, codeS, List.getElem_map, List.getElem_range]
    rw [if_pos (by simpa [crow] using h1)]
theorem cnt_succ (l : List Int) {i j : Nat} (hi : i < l.length) (h : i + 1 + j < l.length) : cnt l i (j + 1) = cnt l i j + if l[i + 1 + j] < l[i] then 1 else 0 := by
  unfold cnt
  have h1 : j < (l.drop (i + 1)).length := by simp; omega
  rw [List.take_succ_eq_append_getElem h1, List.countP_append, List.getElem_drop]
  simp [hi, List.countP_cons]
theorem checkS_len {l : List Int} (h : checkS l = 0) : 1 ≤ l.length ∧ l.length ≤ 7 := by
  unfold checkS at h
  split at h
  · simp at h
  · split at h
    · simp at h
    · omega

set_option maxRecDepth 100000 in
theorem Code_ac (v : AV) (l : List Int) (H : AH) (Q : AV → AH → Prop) (hl : l.length ≤ 1000000) (hv : Ls H v l) (h : ∀ v' H', OwnF H.length H' v' ((codeR l).map (.int .i64)) → Ext H H' → Q (.tuple [v', .int .i64 (checkS l)]) H') : AC Tryd.prog 22 [v] H Q := by
  refine L_body 46 Tryd.func22 rfl rfl ?_
  refine L_reg [0] (fun K hK => ?_)
  simp
  apply hK; clear hK K
  refine L_reg [0, 4] (fun K hK => ?_)
  simp [okFn_low]
  refine Check_q v l H hl hv _ ?_
  simp
  apply hK; clear hK K
  refine L_reg [0, 4, 13] (fun K hK => ?_)
  simp
  apply hK; clear hK K
  unfold codeR at h
  refine L_split rfl (fun ht => ?_) (fun hf => ?_)
  · have hne : checkS l ≠ 0 := by simpa using ht
    rw [if_neg hne] at h
    refine L_reg [2, 3] (fun K hK => ?_)
    simp
    apply hK; clear hK K
    exact L_ret ⟨.inr rfl, _, rfl, h _ _ (OwnF.nil _ _) (.refl _)⟩
  · have he : checkS l = 0 := by simpa using hf
    rw [if_pos he] at h
    rw [he] at h
    obtain ⟨hl1, hl7⟩ := checkS_len he
    obtain ⟨r, off, ver, full, rfl, hld⟩ := Ls.flat hv (by omega)
    refine L_reg [0, 5] (fun K hK => ?_)
    simp [make_z elz26 (show l.length ≤ 16777216 by omega)]
    apply hK; clear hK K
    have hE0 : Ext H (H ++ [AObj.row (List.replicate l.length (AV.int .i64 0)) 0 0 false]) := .push _ _
    have h1 : (H ++ [AObj.row (List.replicate l.length (AV.int .i64 0)) 0 0 false])[H.length]? = some (.row ((crow l 0 0).map (.int .i64)) 0 0 false) := by simp [crow_first]
    generalize H ++ [AObj.row (List.replicate l.length (AV.int .i64 0)) 0 0 false] = H1 at hE0 h1 ⊢
    generalize hw : H.length = w at h h1 ⊢
    refine L_reg [0, 5, 18, 19, 20] (fun K hK => ?_)
    simp
    apply hK; clear hK K
    refine L_block (L_loopV [20] (fun m vs H' => ∃ (i s : Nat), m = l.length - i ∧ i ≤ l.length ∧ vs = [.int .i64 i] ∧ Ext H H' ∧ H'[w]? = some (.row ((crow l i 0).map (.int .i64)) 0 s false)) _ [.int .i64 (0 : Nat)] rfl ⟨0, 0, rfl, by omega, rfl, hE0, h1⟩ ?_)
    rintro m _ H2 ⟨i, s, rfl, hi, rfl, hE, hrow⟩
    refine L_reg [0, 5, 18, 19, 20, 21] (fun K hK => ?_)
    simp
    apply hK; clear hK K
    refine L_dec (i < l.length) (by simp) (fun hlt => ?_) (fun hge => L_exit ?_)
    · have hrd := hE.ld (hld i hlt)
      refine L_block ?_
      refine L_reg [0, 5, 6, 7, 18, 19, 20] (fun K hK => ?_)
      simp [hlt, hrd]
      apply hK; clear hK K
      have hsl : aSlice Tryd.prog 26 (.slice (some r) off l.length ver 1 full) (some (.int .i64 ((i : Int) + 1))) none none = some (.slice (some r) (off + (i + 1)) (l.length - (i + 1)) ver 1 full) := by
        have := slice_lo slz26 (some r) off l.length ver full (k := .i64) (i := i + 1) (by omega)
        simpa using this
      refine L_reg [0, 5, 6, 7, 18, 19, 20, 28, 29, 30] (fun K hK => ?_)
      simp [wrap_i64 (a := (i : Int) + 1) (by omega), hsl]
      apply hK; clear hK K
      obtain ⟨n, hn⟩ : ∃ n, n = l.length - (i + 1) := ⟨_, rfl⟩
      rw [← hn]
      refine L_block (L_loopV [30] (fun m vs H' => ∃ (j s : Nat), m = n - j ∧ j ≤ n ∧ vs = [.int .i64 j] ∧ Ext H H' ∧ H'[w]? = some (.row ((crow l i j).map (.int .i64)) 0 s false)) _ [.int .i64 (0 : Nat)] rfl ⟨0, s, rfl, by omega, rfl, hE, hrow⟩ ?_)
      rintro m _ H3 ⟨j, s3, rfl, hj, rfl, hE3, hrow3⟩
      refine L_reg [0, 5, 6, 7, 18, 19, 20, 28, 29, 30, 31] (fun K hK => ?_)
      simp
      apply hK; clear hK K
      refine L_dec (j < n) (by simp) (fun hjn => ?_) (fun hjn => L_exit ?_)
      · have hrd3 := hE3.ld (hld (i + 1 + j) (by omega))
        have hcs := cnt_succ l hlt (j := j) (by omega)
        have hcl := cnt_le l i j
        have hcell := crow_get l (j := j) hlt
        have l2 : ld H3 w i 0 = some (.int .i64 (cnt l i j)) := by rw [ld_row hrow3, hcell]; rfl
        have hst := store_row (P := Tryd.prog) (u := 3) (p := i) sc3 (x := .int .i64 (cnt l i (j + 1))) (y := .int .i64 (cnt l i j)) rfl hrow3 (by rw [hcell]; rfl)
        rw [crow_set] at hst
        rw [show off + (i + 1 + j) = off + (i + 1) + j by omega] at hrd3
        refine L_block ?_
        refine L_reg [0, 5, 6, 7, 9, 18, 19, 20, 28, 29, 30] (fun K hK => ?_)
        simp [hjn, hrd3]
        apply hK; clear hK K
        refine L_reg [0, 5, 6, 7, 18, 19, 20, 28, 29, 30, 36] (fun K hK => ?_)
        simp
        apply hK; clear hK K
        refine L_dec (l[i + 1 + j] < l[i]) (by simp) (fun hle => ?_) (fun hle => ?_)
        · rw [if_pos hle] at hcs
          rw [hcs, Int.natCast_add, Int.natCast_one] at hst
          refine L_reg [0, 5, 6, 7, 18, 19, 20, 28, 29, 30] (fun K hK => ?_)
          simp [hlt, l2, wrap_i64 (a := (cnt l i j : Int) + 1) (by omega), hst]
          apply hK; clear hK K
          refine L_reg [0, 5, 6, 7, 18, 19, 20, 28, 29, 30] (fun K hK => ?_)
          simp [wrap_i64 (a := (j : Int) + 1) (by omega)]
          apply hK; clear hK K
          exact ⟨n - (j + 1), [.int .i64 (j + 1 : Nat)], by omega, by simp, j + 1, min s3 i, rfl, by omega, rfl, hE3.set _ (by omega), get_set hrow3⟩
        · rw [if_neg hle] at hcs
          refine L_reg [0, 5, 6, 7, 18, 19, 20, 28, 29, 30] (fun K hK => ?_)
          simp [wrap_i64 (a := (j : Int) + 1) (by omega)]
          apply hK; clear hK K
          have : crow l i (j + 1) = crow l i j := by
            unfold crow
            apply List.map_congr_left
            intro q hq
            by_cases he : q = i
            · subst he; simp [hcs]
            · simp [he]
          exact ⟨n - (j + 1), [.int .i64 (j + 1 : Nat)], by omega, by simp, j + 1, s3, rfl, by omega, rfl, hE3, by rw [this]; exact hrow3⟩
      · have : j = l.length - (i + 1) := by omega
        rw [this, crow_next] at hrow3
        refine L_reg [0, 5, 18, 19, 20] (fun K hK => ?_)
        simp [wrap_i64 (a := (i : Int) + 1) (by omega)]
        apply hK; clear hK K
        exact ⟨l.length - (i + 1), [.int .i64 (i + 1 : Nat)], by omega, by simp, i + 1, s3, rfl, by omega, rfl, hE3, hrow3⟩
    · have : i = l.length := by omega
      subst this
      rw [crow_last] at hrow
      refine L_reg [2, 3] (fun K hK => ?_)
      simp
      apply hK; clear hK K
      exact L_ret ⟨.inr rfl, _, rfl, h _ _ (.inr ⟨w, 0, s, Nat.le_refl _, by simp [codeS], hrow⟩) hE⟩
end Go.Proofs.YtmlhekfkniibmaaDoor.Gr

/- Ranks, and the pairs in which two orders differ. -/
namespace Go.Proofs.YtmlhekfkniibmaaDoor.Gr
open Go Go.Proofs.YtmlhekfkniibmaaDoor Go.Proofs.YtmlhekfkniibmaaDoor.AX

def rkF : List Int → Nat → List Int → List Int
  | c, _, [] => c
  | c, i, x :: l => rkF (c.set x.toNat i) (i + 1) l
def ranksS (l : List Int) : List Int := rkF (List.replicate 7 0) 0 l
theorem rkF_len : ∀ {l : List Int} {c : List Int} {i : Nat}, (rkF c i l).length = c.length
  | [], _, _ => rfl
  | x :: l, c, i => by simp [rkF, rkF_len (l := l)]
theorem ranksS_len (l : List Int) : (ranksS l).length = 7 := by simp [ranksS, rkF_len]
theorem ones_ints (l : List Int) : ∀ v ∈ l.map (AV.int .i64), v.one = true := by
  intro x hx
  obtain ⟨y, -, rfl⟩ := List.mem_map.1 hx; rfl
theorem undef_ints (l : List Int) : ∀ v ∈ l.map (AV.int .i64), v ≠ .undef := fun v hv => one_known (ones_ints l v hv)
theorem ldn_off {H : AH} {r s p n : Nat} {c d e : List Int} (hr : H[r]? = some (.row ((c ++ d ++ e).map (.int .i64)) 0 s false)) (hp : c.length = p) (hn : d.length = n) : ldn H r 0 n p = some (d.map (.int .i64)) := by
  rw [← hn]
  refine ldn_ints (fun i hi => ?_)
  rw [ld_row hr]
  subst hp
  rw [List.getElem?_map, List.append_assoc, List.getElem?_append_right (by omega), Nat.add_sub_cancel_left, List.getElem?_append_left hi]
  simp [hi]
theorem ldn_7 {H : AH} {r s : Nat} {c : List Int} (hr : H[r]? = some (.row (c.map (.int .i64)) 0 s false)) (hc : c.length = 7) : ldn H r 0 7 0 = some (c.map (.int .i64)) :=
  ldn_off (c := []) (d := c) (e := []) (s := s) (by simpa using hr) rfl hc
set_option maxRecDepth 100000 in
theorem ranksIn_ac (v : AV) (l : List Int) (H : AH) (Q : AV → AH → Prop) (hr : ∀ x ∈ l, 0 ≤ x ∧ x < 7) (hlen : l.length ≤ 7) (hv : Ls H v l) (h : ∀ H', Ext H H' → Q (.agg ((ranksS l).map (.int .i64))) H') : AC Tryd.prog 43 [v] H Q := by
  refine L_body 18 Tryd.func43 rfl rfl ?_
  obtain ⟨I, hI, hz⟩ := zeroT_some zt54
  refine L_reg [0, 2] (fun K hK => ?_)
  simp [hI, hz]
  apply hK; clear hK K
  refine L_reg [0, 2, 3] (fun K hK => ?_)
  simp [hI, hz]
  apply hK; clear hK K
  have hE0 : Ext H (H ++ [AObj.row [AV.int IntKind.i64 0, AV.int IntKind.i64 0, AV.int IntKind.i64 0, AV.int IntKind.i64 0, AV.int IntKind.i64 0, AV.int IntKind.i64 0, AV.int IntKind.i64 0] 0 0 false, AObj.row [AV.int IntKind.i64 0, AV.int IntKind.i64 0, AV.int IntKind.i64 0, AV.int IntKind.i64 0, AV.int IntKind.i64 0, AV.int IntKind.i64 0, AV.int IntKind.i64 0] 0 0 false]) := .push _ _
  have h1 : (H ++ [AObj.row [AV.int IntKind.i64 0, AV.int IntKind.i64 0, AV.int IntKind.i64 0, AV.int IntKind.i64 0, AV.int IntKind.i64 0, AV.int IntKind.i64 0, AV.int IntKind.i64 0] 0 0 false, AObj.row [AV.int IntKind.i64 0, AV.int IntKind.i64 0, AV.int IntKind.i64 0, AV.int IntKind.i64 0, AV.int IntKind.i64 0, AV.int IntKind.i64 0, AV.int IntKind.i64 0] 0 0 false])[H.length]? = some (.row ((List.replicate 7 (0 : Int)).map (.int .i64)) 0 0 false) := by simp [List.replicate]
  have h2 : (H ++ [AObj.row [AV.int IntKind.i64 0, AV.int IntKind.i64 0, AV.int IntKind.i64 0, AV.int IntKind.i64 0, AV.int IntKind.i64 0, AV.int IntKind.i64 0, AV.int IntKind.i64 0] 0 0 false, AObj.row [AV.int IntKind.i64 0, AV.int IntKind.i64 0, AV.int IntKind.i64 0, AV.int IntKind.i64 0, AV.int IntKind.i64 0, AV.int IntKind.i64 0, AV.int IntKind.i64 0] 0 0 false])[H.length + 1]? = some (.row ((List.replicate 7 (0 : Int)).map (.int .i64)) 0 0 false) := by simp [List.replicate]
  generalize H ++ [AObj.row [AV.int IntKind.i64 0, AV.int IntKind.i64 0, AV.int IntKind.i64 0, AV.int IntKind.i64 0, AV.int IntKind.i64 0, AV.int IntKind.i64 0, AV.int IntKind.i64 0] 0 0 false, AObj.row [AV.int IntKind.i64 0, AV.int IntKind.i64 0, AV.int IntKind.i64 0, AV.int IntKind.i64 0, AV.int IntKind.i64 0, AV.int IntKind.i64 0, AV.int IntKind.i64 0] 0 0 false] = H1 at hE0 h1 h2 ⊢
  have hv1 := hv.ext hE0
  have hvl := ls_len hv1
  refine L_reg [2, 3, 6, 7, 8] (fun K hK => ?_)
  simp [hvl]
  apply hK; clear hK K
  refine L_block (L_loopV [8] (fun q vs H' => ∃ (i s : Nat) (c : List Int), q = l.length - i ∧ i ≤ l.length ∧ c.length = 7 ∧ rkF c i (l.drop i) = ranksS l ∧ vs = [.int .i64 i] ∧ Ext H H' ∧ Ls H' v l ∧ H'[H.length]? = some (.row ((List.replicate 7 (0 : Int)).map (.int .i64)) 0 0 false) ∧ H'[H.length + 1]? = some (.row (c.map (.int .i64)) 0 s false)) _ [.int .i64 0] rfl ⟨0, 0, List.replicate 7 0, rfl, by omega, by simp, rfl, rfl, hE0, hv1, h1, h2⟩ ?_)
  clear hvl hv1 h1 h2 hE0 H1
  rintro q _ H1 ⟨i, s, c, rfl, hi, hc, hrk, rfl, hE, hv1, h1, h2⟩
  refine L_reg [2, 3, 6, 7, 8, 9] (fun K hK => ?_)
  simp
  apply hK; clear hK K
  refine L_dec (i < l.length) (by simp) (fun hlt => ?_) (fun hge => L_exit ?_)
  · refine L_block ?_
    obtain ⟨rz, pz, vz, hix, hldz⟩ := ls_ix hv1 hlt
    obtain ⟨x1, x2⟩ := hr (g l i) (by rw [g_lt hlt]; simp)
    rw [List.drop_eq_getElem_cons hlt, ← g_lt hlt] at hrk
    simp only [rkF] at hrk
    obtain ⟨z, hz⟩ : ∃ z : Nat, g l i = z := ⟨(g l i).toNat, by omega⟩
    rw [hz] at hldz hrk x1 x2
    rw [Int.toNat_natCast] at hrk
    have hz7 : z < 7 := by omega
    have hst := store_row (P := Tryd.prog) (u := 3) (p := z) sc3 (x := .int .i64 (i : Int)) (y := .int .i64 (c[z]'(by omega))) rfl h2 (by simp [show z < c.length by omega])
    rw [← List.map_set] at hst
    refine L_reg [2, 3, 4, 5, 6, 7, 8] (fun K hK => ?_)
    simp [hix, hldz]
    apply hK; clear hK K
    refine L_reg [2, 3, 6, 7, 8] (fun K hK => ?_)
    simp [x2, hst]
    apply hK; clear hK K
    refine L_reg [2, 3, 6, 7, 8] (fun K hK => ?_)
    simp [wrap_i64 (a := (i : Int) + 1) (by omega)]
    apply hK; clear hK K
    refine ⟨l.length - (i + 1), [.int .i64 (i + 1 : Nat)], by omega, by simp, i + 1, min s z, c.set z i, rfl, by omega, by simpa using hc, hrk, rfl, hE.set _ (by omega), ?_, ?_, ?_⟩
    · exact hv.ext (hE.set _ (by omega))
    · rw [List.getElem?_set_ne (by omega)]; exact h1
    · rw [List.map_set]; exact get_set h2
  · have hil : i = l.length := by omega
    rw [hil, List.drop_length] at hrk
    simp only [rkF] at hrk
    subst hrk
    have l7 := ldn_7 h2 hc
    have hst := store_agg ag54 h1 (by decide) (by simp) (undef_ints _) (vs := (ranksS l).map (.int .i64)) (by simp [ranksS_len]) (ones_ints _)
    refine L_reg [2] (fun K hK => ?_)
    simp [l7, hst]
    apply hK; clear hK K
    refine L_ret ⟨.inr rfl, _, res_cell rfl ?_, h _ (hE.set _ (by omega))⟩
    simp [ldn_7 (get_set h1) hc]

theorem ld_c {H : AH} {r s i : Nat} {c : List Int} (hr : H[r]? = some (.row (c.map (.int .i64)) 0 s false)) (hi : i < c.length) : ld H r i 0 = some (.int .i64 (g c i)) := by
  rw [ld_row hr, g_lt hi]
  simp [hi]
theorem before_ac (c : List Int) (i j : Nat) (H : AH) (Q : AV → AH → Prop) (hc : c.length = 7) (hi : i < 7) (hj : j < 7) (h : ∀ H', Ext H H' → Q (.bool (decide (g c i < g c j))) H') : AC Tryd.prog 44 [.agg (c.map (.int .i64)), .int .i64 i, .int .i64 j] H Q := by
  refine L_body 14 Tryd.func44 rfl rfl ?_
  refine L_reg [1, 2, 3] (fun K hK => ?_)
  simp [AV.isU, acells]
  apply hK; clear hK K
  have hE0 : Ext H (H ++ [AObj.row (c.map (.int .i64)) 0 0 false]) := .push _ _
  have h1 : (H ++ [AObj.row (c.map (.int .i64)) 0 0 false])[H.length]? = some (.row (c.map (.int .i64)) 0 0 false) := by simp
  generalize H ++ [AObj.row (c.map (.int .i64)) 0 0 false] = H1 at hE0 h1 ⊢
  have a1 := ld_c h1 (i := i) (by omega)
  have a2 := ld_c h1 (i := j) (by omega)
  have i1 : (i : Int) < 7 := by omega
  have i2 : (j : Int) < 7 := by omega
  refine L_regT mixed [6] (by kernel_rfl) (fun K hK => ?_)
  simp [a1, a2, i1, i2]
  apply hK; clear hK K
  exact L_ret ⟨.inr rfl, _, rfl, h _ hE0⟩
theorem before_q (c : List Int) (i j : Nat) (H : AH) (hc : c.length = 7) (hi : i < 7) (hj : j < 7) (Q : AV → AH → Prop) (h : Q (.bool (decide (g c i < g c j))) H) : AC Tryd.prog 44 [.agg (c.map (.int .i64)), .int .i64 i, .int .i64 j] H Q :=
  AC.quiet (belB_bool _ _ _) (fun Q h => before_ac c i j H Q hc hi hj h) Q h
def dif (c d : List Int) (i j : Nat) : Bool := decide (g c i < g c j) && decide (g d j < g d i)
theorem differ_ac (c d : List Int) (i j : Nat) (H : AH) (Q : AV → AH → Prop) (hc : c.length = 7) (hd : d.length = 7) (hi : i < 7) (hj : j < 7) (h : ∀ H', Ext H H' → Q (.bool (dif c d i j)) H') : AC Tryd.prog 26 [.agg ((c ++ d).map (.int .i64)), .int .i64 i, .int .i64 j] H Q := by
  refine L_body 19 Tryd.func26 rfl rfl ?_
  refine L_reg [1, 2, 3] (fun K hK => ?_)
  simp [AV.isU, acells, -List.map_append]
  apply hK; clear hK K
  have hE0 : Ext H (H ++ [AObj.row ((c ++ d).map (.int .i64)) 0 0 false]) := .push _ _
  have h1 : (H ++ [AObj.row ((c ++ d).map (.int .i64)) 0 0 false])[H.length]? = some (.row ((c ++ d).map (.int .i64)) 0 0 false) := by simp
  generalize H ++ [AObj.row ((c ++ d).map (.int .i64)) 0 0 false] = H1 at hE0 h1 ⊢
  have a1 := ldn_off (p := 0) (n := 7) (c := []) (d := c) (e := d) (s := 0) (by simpa using h1) rfl hc
  have a2 := ldn_off (p := 7) (n := 7) (c := c) (d := d) (e := []) (s := 0) (by simpa using h1) hc hd
  unfold dif at h
  by_cases hb : g c i < g c j
  · rw [decide_eq_true hb, Bool.true_and] at h
    refine L_reg [6] (fun K hK => ?_)
    simp [okFn_low, a1]
    refine before_q c i j _ hc hi hj _ ?_
    simp [okFn_low, hb, a2]
    refine before_q d j i _ hd hj hi _ ?_
    simp [pickV]
    apply hK; clear hK K
    exact L_ret ⟨.inr rfl, _, rfl, h _ hE0⟩
  · rw [decide_eq_false hb, Bool.false_and] at h
    refine L_reg [6] (fun K hK => ?_)
    simp [okFn_low, a1]
    refine before_q c i j _ hc hi hj _ ?_
    simp [hb, pickV]
    apply hK; clear hK K
    exact L_ret ⟨.inr rfl, _, rfl, h _ hE0⟩
theorem differ_q (c d : List Int) (i j : Nat) (H : AH) (hc : c.length = 7) (hd : d.length = 7) (hi : i < 7) (hj : j < 7) (Q : AV → AH → Prop) (h : Q (.bool (dif c d i j)) H) : AC Tryd.prog 26 [.agg ((c ++ d).map (.int .i64)), .int .i64 i, .int .i64 j] H Q :=
  AC.quiet (belB_bool _ _ _) (fun Q h => differ_ac c d i j H Q hc hd hi hj h) Q h
theorem built56v (c0 c1 c2 c3 c4 c5 c6 d0 d1 d2 d3 d4 d5 d6 : Int) : aBuilt Tryd.prog 56 [(0, .agg [.int .i64 c0, .int .i64 c1, .int .i64 c2, .int .i64 c3, .int .i64 c4, .int .i64 c5, .int .i64 c6]), (1, .agg [.int .i64 d0, .int .i64 d1, .int .i64 d2, .int .i64 d3, .int .i64 d4, .int .i64 d5, .int .i64 d6])] = some [.int .i64 c0, .int .i64 c1, .int .i64 c2, .int .i64 c3, .int .i64 c4, .int .i64 c5, .int .i64 c6, .int .i64 d0, .int .i64 d1, .int .i64 d2, .int .i64 d3, .int .i64 d4, .int .i64 d5, .int .i64 d6] := by kernel_rfl
theorem built56 {c d : List Int} (hc : c.length = 7) (hd : d.length = 7) : aBuilt Tryd.prog 56 [(0, .agg (c.map (.int .i64))), (1, .agg (d.map (.int .i64)))] = some ((c ++ d).map (.int .i64)) :=
  match c, hc, d, hd with
  | [c0, c1, c2, c3, c4, c5, c6], _, [d0, d1, d2, d3, d4, d5, d6], _ => built56v c0 c1 c2 c3 c4 c5 c6 d0 d1 d2 d3 d4 d5 d6
theorem buyersOf_ac (u v : AV) (l o : List Int) (H : AH) (Q : AV → AH → Prop) (hr : ∀ x ∈ l, 0 ≤ x ∧ x < 7) (hlen : l.length ≤ 7) (hr2 : ∀ x ∈ o, 0 ≤ x ∧ x < 7) (hlen2 : o.length ≤ 7) (hu : Ls H u l) (hv : Ls H v o) (h : ∀ H', Ext H H' → Q (.agg ((ranksS l ++ ranksS o).map (.int .i64))) H') : AC Tryd.prog 25 [u, v] H Q := by
  refine L_body 10 Tryd.func25 rfl rfl ?_
  obtain ⟨I, hI, hz⟩ := zeroT_some zt56
  refine L_reg [0, 1, 4] (fun K hK => ?_)
  simp [hI, hz]
  apply hK; clear hK K
  obtain ⟨z, hz2⟩ : ∃ z : List AV, z = [AV.int IntKind.i64 0, AV.int IntKind.i64 0, AV.int IntKind.i64 0, AV.int IntKind.i64 0, AV.int IntKind.i64 0, AV.int IntKind.i64 0, AV.int IntKind.i64 0, AV.int IntKind.i64 0, AV.int IntKind.i64 0, AV.int IntKind.i64 0, AV.int IntKind.i64 0, AV.int IntKind.i64 0, AV.int IntKind.i64 0, AV.int IntKind.i64 0] := ⟨_, rfl⟩
  rw [← hz2]
  have hzl : z.length = 14 := by rw [hz2]; rfl
  have hzu : ∀ v ∈ z, v ≠ .undef := by rw [hz2]; simp
  clear hz2
  have hE0 : Ext H (H ++ [AObj.row z 0 0 false]) := .push _ _
  have h1 : (H ++ [AObj.row z 0 0 false])[H.length]? = some (.row z 0 0 false) := by simp
  generalize H ++ [AObj.row z 0 0 false] = H1 at hE0 h1 ⊢
  have hb := built56 (ranksS_len l) (ranksS_len o)
  refine L_reg [4] (fun K hK => ?_)
  simp [okFn_low]
  refine ranksIn_ac u l _ _ hr hlen (hu.ext hE0) (fun H2 E2 => ?_)
  simp [okFn_low]
  refine ranksIn_ac v o _ _ hr2 hlen2 (hv.ext (hE0.trans E2)) (fun H3 E3 => ?_)
  have h3 := E3.row (E2.row h1)
  have hE3 := (hE0.trans E2).trans E3
  have hst := store_agg ag56 h3 (by decide) hzl hzu (vs := (ranksS l ++ ranksS o).map (.int .i64)) (by simp [ranksS_len]) (ones_ints _)
  simp [hb, hst, -List.map_append]
  apply hK; clear hK K
  refine L_ret ⟨.inr rfl, _, res_cell rfl ?_, h _ (hE3.set _ (Nat.le_refl _))⟩
  have l14 : ldn (H3.set H.length (.row ((ranksS l ++ ranksS o).map (.int .i64)) 0 0 false)) H.length 0 14 0 = some ((ranksS l ++ ranksS o).map (.int .i64)) := ldn_off (p := 0) (n := 14) (c := []) (d := ranksS l ++ ranksS o) (e := []) (s := 0) (by rw [List.nil_append, List.append_nil]; exact get_set h3) rfl (by simp [ranksS_len])
  simp [l14, -List.map_append]
end Go.Proofs.YtmlhekfkniibmaaDoor.Gr

/- The pairs in which two orders differ, and how many pairs an order turns. -/
namespace Go.Proofs.YtmlhekfkniibmaaDoor.Gr
open Go Go.Proofs.YtmlhekfkniibmaaDoor Go.Proofs.YtmlhekfkniibmaaDoor.AX

def rowN (c d : List Int) (n i : Nat) : Nat := (List.range n).countP (dif c d i)
def sumR (f : Nat → Nat) : Nat → Nat
  | 0 => 0
  | i + 1 => sumR f i + f i
def difN (c d : List Int) (n : Nat) : Nat := sumR (rowN c d n) n
theorem elK32 : elK Tryd.prog 32 2 = true := by kernel_rfl
theorem built70 (a b : Int) : aBuilt Tryd.prog 70 [(0, .int .i64 a), (1, .int .i64 b)] = some [.int .i64 a, .int .i64 b] := by kernel_rfl
theorem row32 (H : AH) (a b : Int) : rowV Tryd.prog 32 1 [(0, .agg [.int .i64 a, .int .i64 b])] H = some (some (.slice (some H.length) 0 1 0 2 false), H ++ [.row [.int .i64 a, .int .i64 b] 0 2 false]) := by kernel_rfl
theorem row69 (H : AH) (r r2 : Option Nat) (o o2 l l2 v v2 s s2 : Nat) (f f2 : Bool) : rowV Tryd.prog 69 2 [(0, .slice r o l v s f), (1, .slice r2 o2 l2 v2 s2 f2)] H = some (some (.slice (some H.length) 0 2 0 1 false), H ++ [.row [.slice r o l v s f, .slice r2 o2 l2 v2 s2 f2] 0 2 false]) := by kernel_rfl
set_option maxRecDepth 100000 in
theorem pairs_ac (n : Nat) (c d : List Int) (H : AH) (Q : AV → AH → Prop) (hn : n ≤ 7) (hc : c.length = 7) (hd : d.length = 7) (h : ∀ v H' L, OwnK 2 H.length H' v L → L.length = difN c d n → Ext H H' → Q v H') : AC Tryd.prog 24 [.int .i64 n, .func (.func 26) [.agg ((c ++ d).map (.int .i64))] []] H Q := by
  refine L_body 29 Tryd.func24 rfl rfl ?_
  generalize ha : AV.agg ((c ++ d).map (.int .i64)) = ag
  refine L_reg [0, 1] (fun K hK => ?_)
  simp
  apply hK; clear hK K
  refine L_reg [0, 1, 5] (fun K hK => ?_)
  simp
  apply hK; clear hK K
  refine L_reg [0, 1, 5, 8, 9] (fun K hK => ?_)
  simp
  apply hK; clear hK K
  refine L_block (L_loopV [5, 9] (fun q vs H' => ∃ (i : Nat) (v : AV) (L : List (List AV)), q = n - i ∧ i ≤ n ∧ vs = [v, .int .i64 i] ∧ OwnK 2 H.length H' v L ∧ L.length = sumR (rowN c d n) i ∧ L.length ≤ 7 * i ∧ Ext H H') _ [.slice none 0 0 0 1 false, .int .i64 0] rfl ⟨0, _, [], rfl, by omega, rfl, .nil _ _ _, rfl, by simp, .refl _⟩ ?_)
  rintro q _ H1 ⟨i, v, L, rfl, hi, rfl, hO, hL, hL7, hE⟩
  refine L_reg [0, 1, 5, 8, 9, 10] (fun K hK => ?_)
  simp
  apply hK; clear hK K
  refine L_dec (i < n) (by simp) (fun hlt => ?_) (fun hge => L_exit ?_)
  · refine L_block ?_
    refine L_reg [0, 1, 5, 6, 8, 9] (fun K hK => ?_)
    simp
    apply hK; clear hK K
    refine L_reg [0, 1, 5, 6, 8, 9, 12, 13] (fun K hK => ?_)
    simp
    apply hK; clear hK K
    refine L_block (L_loopV [5, 13] (fun q vs H' => ∃ (j : Nat) (v : AV) (L : List (List AV)), q = n - j ∧ j ≤ n ∧ vs = [v, .int .i64 j] ∧ OwnK 2 H.length H' v L ∧ L.length = sumR (rowN c d n) i + (List.range j).countP (dif c d i) ∧ L.length ≤ 7 * i + j ∧ Ext H H') _ [v, .int .i64 0] rfl ⟨0, v, L, rfl, by omega, rfl, hO, by simpa using hL, by omega, hE⟩ ?_)
    clear hO hL hL7 hE
    rintro q _ H5 ⟨j, v, L, rfl, hj, rfl, hO, hL, hL7, hE⟩
    refine L_reg [0, 1, 5, 6, 8, 9, 12, 13, 14] (fun K hK => ?_)
    simp
    apply hK; clear hK K
    refine L_dec (j < n) (by simp) (fun hlt2 => ?_) (fun hge2 => L_exit ?_)
    · refine L_block ?_
      have hs : (List.range (j + 1)).countP (dif c d i) = (List.range j).countP (dif c d i) + if dif c d i j then 1 else 0 := by
        rw [List.range_succ, List.countP_append]
        simp [List.countP_cons]
      refine L_reg [0, 1, 5, 6, 7, 8, 9, 12, 13] (fun K hK => ?_)
      simp
      apply hK; clear hK K
      refine L_reg [0, 1, 5, 6, 7, 8, 9, 12, 13, 19] (fun K hK => ?_)
      simp [okFn_low]
      rw [← ha]
      refine differ_q c d i j _ hc hd (by omega) (by omega) _ ?_
      rw [ha]
      simp
      apply hK; clear hK K
      by_cases hb : dif c d i j = true
      · rw [if_pos hb] at hs
        refine L_true (by simp [hb]) ?_
        obtain ⟨v', H2, happ, hO2, hE2⟩ := ownK_append hE elK32 elK32 (x := [.int .i64 (i : Int), .int .i64 (j : Int)]) (m := 2) hO rfl (by simp [AV.one]) (by omega)
        refine L_reg [0, 1, 5, 6, 8, 9, 12, 13] (fun K hK => ?_)
        simp [built70, row32, happ]
        apply hK; clear hK K
        refine L_reg [0, 1, 5, 6, 8, 9, 12, 13] (fun K hK => ?_)
        simp [wrap_i64 (a := (j : Int) + 1) (by omega)]
        apply hK; clear hK K
        exact ⟨n - (j + 1), [v', .int .i64 (j + 1 : Nat)], by omega, by simp, j + 1, v', _, rfl, by omega, rfl, hO2, by rw [List.length_append, hs]; simp; omega, by rw [List.length_append]; simp; omega, hE2⟩
      · rw [if_neg hb] at hs
        refine L_false (by simp [hb]) ?_
        refine L_reg [0, 1, 5, 6, 8, 9, 12, 13] (fun K hK => ?_)
        simp [wrap_i64 (a := (j : Int) + 1) (by omega)]
        apply hK; clear hK K
        exact ⟨n - (j + 1), [v, .int .i64 (j + 1 : Nat)], by omega, by simp, j + 1, v, L, rfl, by omega, rfl, hO, by rw [hs]; exact hL, by omega, hE⟩
    · have hjn : j = n := by omega
      rw [hjn] at hL hL7
      refine L_reg [0, 1, 5, 8, 9] (fun K hK => ?_)
      simp [wrap_i64 (a := (i : Int) + 1) (by omega)]
      apply hK; clear hK K
      exact ⟨n - (i + 1), [v, .int .i64 (i + 1 : Nat)], by omega, by simp, i + 1, v, L, rfl, by omega, rfl, hO, hL, by omega, hE⟩
  · have hin : i = n := by omega
    subst hin
    refine L_reg [4] (fun K hK => ?_)
    simp
    apply hK; clear hK K
    exact L_ret ⟨.inr rfl, _, rfl, h _ _ _ hO hL hE⟩
theorem checkS_in {l : List Int} (h : checkS l = 0) : ∀ x ∈ l, 0 ≤ x ∧ x < 7 := by
  have hb := checkS_len h
  unfold checkS at h
  rw [if_neg (by omega), if_neg (by omega)] at h
  have gen : ∀ (n : Int) (m done : List Int), chkS n done m = 0 → ∀ x ∈ m, 0 ≤ x ∧ x < n := by
    intro n m
    induction m with
    | nil => intro done _ x hx; cases hx
    | cons y m ih =>
      intro done hh x hx
      simp only [chkS] at hh
      split at hh
      · cases hh
      · rename_i h1
        split at hh
        · cases hh
        · rcases List.mem_cons.1 hx with rfl | hx
          · omega
          · exact ih _ hh x hx
  intro x hx
  have := gen _ _ _ h x hx
  omega
theorem checkAll_ac (w : Nat) (u v : AV) (l o : List Int) (H : AH) (Q : AV → AH → Prop) (s : Nat) (hw : H[w]? = some (.row [u, v] 0 s false)) (hl : checkS l = 0) (ho : checkS o = 0) (hlo : l.length = o.length) (hu : Ls H u l) (hv : Ls H v o) (h : Q (.int .i64 0) H) : AC Tryd.prog 23 [.slice (some w) 0 2 0 1 false] H Q := by
  have hb := checkS_len hl
  have hat : ∀ i, i < 2 → ∃ x m, ld H w i 0 = some x ∧ Ls H x m ∧ checkS m = 0 ∧ m.length = l.length := by
    intro i hi
    have hone : ∀ {x : AV} {m : List Int}, Ls H x m → known (some x) = some x := by
      rintro x m ⟨r, off, ver, sz, full, rfl, -⟩; rfl
    rcases (by omega : i = 0 ∨ i = 1) with rfl | rfl
    · exact ⟨u, l, by rw [ld_row hw]; exact hone hu, hu, hl, rfl⟩
    · exact ⟨v, o, by rw [ld_row hw]; exact hone hv, hv, ho, hlo.symm⟩
  refine L_body 34 Tryd.func23 rfl rfl ?_
  refine L_reg [0] (fun K hK => ?_)
  simp
  apply hK; clear hK K
  refine L_reg [0, 8, 9, 10] (fun K hK => ?_)
  simp
  apply hK; clear hK K
  refine L_block (L_loopV [10] (fun q vs H' => ∃ i : Nat, q = 2 - i ∧ i ≤ 2 ∧ vs = [.int .i64 i] ∧ H = H') _ [.int .i64 0] rfl ⟨0, rfl, by omega, rfl, rfl⟩ ?_)
  rintro q _ _ ⟨i, rfl, hi, rfl, rfl⟩
  refine L_reg [0, 8, 9, 10, 11] (fun K hK => ?_)
  simp
  apply hK; clear hK K
  refine L_dec (i < 2) (by simp; try omega) (fun hlt => ?_) (fun hge => L_exit ?_)
  · refine L_block ?_
    obtain ⟨x, m, e1, e2, e3, e4⟩ := hat i hlt
    have hii : (i : Int) < 2 := by omega
    refine L_reg [0, 4, 8, 9, 10] (fun K hK => ?_)
    simp [hii, e1]
    apply hK; clear hK K
    refine L_reg [0, 5, 8, 9, 10] (fun K hK => ?_)
    simp [okFn_low]
    refine Check_q x m _ (by omega) e2 _ ?_
    simp
    apply hK; clear hK K
    refine L_reg [0, 5, 8, 9, 10, 17] (fun K hK => ?_)
    simp [e3]
    apply hK; clear hK K
    refine L_false (by simp) ?_
    refine L_reg [0, 8, 9, 10] (fun K hK => ?_)
    simp [wrap_i64 (a := (i : Int) + 1) (by omega)]
    apply hK; clear hK K
    exact ⟨2 - (i + 1), [.int .i64 (i + 1 : Nat)], by omega, by simp, i + 1, rfl, by omega, rfl, rfl⟩
  clear hge hi
  refine L_reg [0, 20, 21, 22] (fun K hK => ?_)
  simp
  apply hK; clear hK K
  refine L_block (L_loopV [22] (fun q vs H' => ∃ i : Nat, q = 2 - i ∧ i ≤ 2 ∧ vs = [.int .i64 i] ∧ H = H') _ [.int .i64 0] rfl ⟨0, rfl, by omega, rfl, rfl⟩ ?_)
  rintro q _ _ ⟨i, rfl, hi, rfl, rfl⟩
  refine L_reg [0, 20, 21, 22, 23] (fun K hK => ?_)
  simp
  apply hK; clear hK K
  refine L_dec (i < 2) (by simp; try omega) (fun hlt => ?_) (fun hge => L_exit ?_)
  · refine L_block ?_
    obtain ⟨x, m, e1, e2, e3, e4⟩ := hat i hlt
    obtain ⟨x0, m0, d1, d2, d3, d4⟩ := hat 0 (by omega)
    have hii : (i : Int) < 2 := by omega
    have k1 := ls_len e2
    have k2 := ls_len d2
    rw [e4] at k1
    rw [d4] at k2
    refine L_reg [0, 7, 20, 21, 22] (fun K hK => ?_)
    simp [hii, e1]
    apply hK; clear hK K
    refine L_reg [0, 20, 21, 22, 32] (fun K hK => ?_)
    simp [d1, k1, k2]
    apply hK; clear hK K
    refine L_false (by simp) ?_
    refine L_reg [0, 20, 21, 22] (fun K hK => ?_)
    simp [wrap_i64 (a := (i : Int) + 1) (by omega)]
    apply hK; clear hK K
    exact ⟨2 - (i + 1), [.int .i64 (i + 1 : Nat)], by omega, by simp, i + 1, rfl, by omega, rfl, rfl⟩
  refine L_reg [2] (fun K hK => ?_)
  simp
  apply hK; clear hK K
  exact L_ret ⟨.inr rfl, _, rfl, h⟩
theorem Differ_ac (u v : AV) (l o : List Int) (H : AH) (Q : AV → AH → Prop) (hl : checkS l = 0) (ho : checkS o = 0) (hlo : l.length = o.length) (hu : Ls H u l) (hv : Ls H v o) (h : ∀ w H' L, OwnK 2 H.length H' w L → L.length = difN (ranksS l) (ranksS o) l.length → Ext H H' → Q (.tuple [w, .int .i64 0]) H') : AC Tryd.prog 9 [u, v] H Q := by
  have hb := checkS_len hl
  obtain ⟨r, off, ver, sz, full, rfl, -⟩ := id hu
  obtain ⟨r2, off2, ver2, sz2, full2, rfl, -⟩ := id hv
  refine L_body 21 Tryd.func9 rfl rfl ?_
  refine L_reg [0, 1] (fun K hK => ?_)
  simp
  apply hK; clear hK K
  generalize hA : AV.slice r off l.length ver sz full = A at *
  generalize hB : AV.slice r2 off2 o.length ver2 sz2 full2 = B at *
  have hrow : rowV Tryd.prog 69 2 [(0, A), (1, B)] H = some (some (.slice (some H.length) 0 2 0 1 false), H ++ [.row [A, B] 0 2 false]) := by rw [← hA, ← hB]; exact row69 ..
  have hE0 : Ext H (H ++ [AObj.row [A, B] 0 2 false]) := .push _ _
  have h1 : (H ++ [AObj.row [A, B] 0 2 false])[H.length]? = some (.row [A, B] 0 2 false) := by simp
  refine L_reg [0, 1, 6] (fun K hK => ?_)
  simp [okFn_low, hrow]
  refine checkAll_ac H.length A B l o _ _ 2 h1 hl ho hlo (hu.ext hE0) (hv.ext hE0) ?_
  simp
  apply hK; clear hK K
  generalize H ++ [AObj.row [A, B] 0 2 false] = H1 at hE0 h1 ⊢
  refine L_reg [0, 1, 6, 12] (fun K hK => ?_)
  simp
  apply hK; clear hK K
  refine L_false (by simp) ?_
  have kl := ls_len (hu.ext hE0)
  have hlt := hE0.1
  refine L_reg [4, 5] (fun K hK => ?_)
  simp [okFn_low, kl]
  refine buyersOf_ac A B l o _ _ (checkS_in hl) (by omega) (checkS_in ho) (by omega) (hu.ext hE0) (hv.ext hE0) (fun H2 E2 => ?_)
  simp [okFn_low, -List.map_append]
  refine pairs_ac l.length (ranksS l) (ranksS o) _ _ (by omega) (ranksS_len l) (ranksS_len o) (fun w H3 L hO hL E3 => ?_)
  simp
  apply hK; clear hK K
  have hE := (hE0.trans E2).trans E3
  refine L_ret ⟨.inr rfl, _, rfl, h w H3 L ⟨hO.1, ?_⟩ hL hE⟩
  rcases hO.2 with e | ⟨r', ve, st, g1, g2, g3⟩
  · exact .inl e
  · exact .inr ⟨r', ve, st, by have := (hE0.trans E2).1; omega, g2, g3⟩
def sI (l : List Int) : Nat → Int
  | 0 => 0
  | i + 1 => sI l i + g l i
def tp (l : List Int) : Int := sI (codeS l) l.length
theorem codeS_g {l : List Int} {i : Nat} (hi : i < l.length) : 0 ≤ g (codeS l) i ∧ g (codeS l) i ≤ l.length := by
  have hl : (codeS l).length = l.length := by simp [codeS]
  rw [g_lt (by omega)]
  have : (codeS l)[i]'(by omega) = (cnt l i l.length : Int) := by simp [codeS]
  rw [this]
  have := cnt_le l i l.length
  omega
theorem turnedPairs_ac (v : AV) (l : List Int) (H : AH) (Q : AV → AH → Prop) (hl : checkS l = 0) (hv : Ls H v l) (h : ∀ H', Ext H H' → Q (.tuple [.int .i64 (tp l), .bool true]) H') : AC Tryd.prog 8 [v] H Q := by
  have hb := checkS_len hl
  have hcl : (codeS l).length = l.length := by simp [codeS]
  refine L_body 34 Tryd.func8 rfl rfl ?_
  refine L_reg [0] (fun K hK => ?_)
  simp
  apply hK; clear hK K
  refine L_reg [0, 4, 5] (fun K hK => ?_)
  simp [okFn_low]
  refine Code_ac v l _ _ (by omega) hv (fun w H1 hO E1 => ?_)
  simp
  apply hK; clear hK K
  unfold codeR at hO
  rw [if_pos hl] at hO
  have hw : Ls H1 w (codeS l) := hO.own.ls
  have hwl := ls_len hw
  rw [hcl] at hwl
  have hvl := ls_len (hv.ext E1)
  refine L_reg [0, 4, 5, 6] (fun K hK => ?_)
  simp
  apply hK; clear hK K
  refine L_reg [0, 4, 5, 6, 14, 15, 16] (fun K hK => ?_)
  simp [hwl]
  apply hK; clear hK K
  refine L_block (L_loopV [6, 16] (fun q vs H' => ∃ (i : Nat) (t : Int), q = l.length - i ∧ i ≤ l.length ∧ t = sI (codeS l) i ∧ 0 ≤ t ∧ t ≤ 7 * i ∧ vs = [.int .i64 t, .int .i64 i] ∧ H1 = H') _ [.int .i64 0, .int .i64 0] rfl ⟨0, 0, rfl, by omega, rfl, by omega, by omega, rfl, rfl⟩ ?_)
  rintro q _ _ ⟨i, t, rfl, hi, ht, t0, t7, rfl, rfl⟩
  refine L_reg [0, 4, 5, 6, 14, 15, 16, 17] (fun K hK => ?_)
  simp
  apply hK; clear hK K
  refine L_dec (i < l.length) (by simp) (fun hlt => ?_) (fun hge => L_exit ?_)
  · refine L_block ?_
    obtain ⟨rz, pz, vz, hix, hldz⟩ := ls_ix hw (i := i) (by omega)
    have hg := codeS_g hlt
    refine L_reg [0, 4, 5, 6, 8, 14, 15, 16] (fun K hK => ?_)
    simp [hix, hldz]
    apply hK; clear hK K
    refine L_reg [0, 4, 5, 6, 14, 15, 16] (fun K hK => ?_)
    simp [wrap_i64 (a := t + g (codeS l) i) (by omega)]
    apply hK; clear hK K
    refine L_reg [0, 4, 5, 6, 14, 15, 16] (fun K hK => ?_)
    simp [wrap_i64 (a := (i : Int) + 1) (by omega)]
    apply hK; clear hK K
    exact ⟨l.length - (i + 1), [.int .i64 (t + g (codeS l) i), .int .i64 (i + 1 : Nat)], by omega, by simp, i + 1, _, rfl, by omega, by rw [ht]; rfl, by omega, by omega, rfl, rfl⟩
  · have hil : i = l.length := by omega
    have htp : t = tp l := by rw [ht, hil]; rfl
    subst htp
    refine L_reg [2, 3] (fun K hK => ?_)
    simp [hl, hwl, hvl, pickV]
    apply hK; clear hK K
    exact L_ret ⟨.inr rfl, _, rfl, h _ E1⟩
end Go.Proofs.YtmlhekfkniibmaaDoor.Gr

/- Orders of at most seven, all of them. -/
namespace Go.Proofs.YtmlhekfkniibmaaDoor.Gr
open Go Go.Proofs.YtmlhekfkniibmaaDoor Go.Proofs.YtmlhekfkniibmaaDoor.AX

def turnS (n k : Nat) : List Int := (allS n).map fun x => idx x (orderS n k)
def okM (n k : Nat) : Bool :=
  decide (checkS (orderS n k) = 0) && decide (checkS (orderS n (lcmS n + 1 - k)) = 0) && decide (checkS (turnS n k) = 0) && decide (checkS (allS n) = 0) &&
  decide (tp (orderS n k) + tp (orderS n (lcmS n + 1 - k)) = (n : Int) * ((n : Int) - 1) / 2) && decide (tp (turnS n k) = tp (orderS n k)) && decide ((difN (ranksS (allS n)) (ranksS (orderS n k)) n : Int) = tp (orderS n k))
theorem tab1 : ((List.range 7).all fun a => (List.range (lcmS (a + 1))).all fun b => okM (a + 1) (b + 1)) = true := by decide +kernel
structure Mir (n k : Nat) : Prop where
  o : checkS (orderS n k) = 0
  r : checkS (orderS n (lcmS n + 1 - k)) = 0
  t : checkS (turnS n k) = 0
  a : checkS (allS n) = 0
  half : tp (orderS n k) + tp (orderS n (lcmS n + 1 - k)) = (n : Int) * ((n : Int) - 1) / 2
  same : tp (turnS n k) = tp (orderS n k)
  dif : (difN (ranksS (allS n)) (ranksS (orderS n k)) n : Int) = tp (orderS n k)
theorem mir {n k : Nat} (h1 : 1 ≤ n) (h2 : n ≤ 7) (h3 : 1 ≤ k) (h4 : k ≤ lcmS n) : Mir n k := by
  have h := List.all_eq_true.1 (List.all_eq_true.1 tab1 (n - 1) (List.mem_range.2 (by omega))) (k - 1)
  rw [show n - 1 + 1 = n by omega, show k - 1 + 1 = k by omega] at h
  have h := h (List.mem_range.2 (by omega))
  simp only [okM, Bool.and_eq_true, decide_eq_true_eq] at h
  obtain ⟨⟨⟨⟨⟨⟨a1, a2⟩, a3⟩, a4⟩, a5⟩, a6⟩, a7⟩ := h
  exact ⟨a1, a2, a3, a4, a5, a6, a7⟩
theorem lcm_7 {n : Nat} (h : n ≤ 7) : lcmS n ≤ 420 := by
  have h7 : lcmS 7 = 420 := by decide +kernel
  rw [← h7]; exact Nat.le_of_dvd (lcmS_pos _) (lcmS_mono h)
theorem tp_le {l : List Int} (h : checkS l = 0) : 0 ≤ tp l ∧ tp l ≤ 49 := by
  have hb := checkS_len h
  have : ∀ i, i ≤ l.length → 0 ≤ sI (codeS l) i ∧ sI (codeS l) i ≤ 7 * i := by
    intro i
    induction i with
    | zero => intro _; simp [sI]
    | succ i ih =>
      intro hi
      have h1 := ih (by omega)
      have h2 := codeS_g (l := l) (i := i) (by omega)
      simp only [sI]
      omega
  have := this l.length (by omega)
  unfold tp
  omega
end Go.Proofs.YtmlhekfkniibmaaDoor.Gr
