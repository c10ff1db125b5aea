/- Sorting by a comparison: what is nearly sorted. -/
import Derived.Test.YtjfmiohgkcjdnaaCc
namespace Go.Proofs.Ytjfmiohgkcjdnaa
open Go Go.Proofs.Ytjfmiohgkcjdnaa.AX

theorem Srt.more {κ : Int → Int} {a i : Nat} {d : List Int} (h : Srt κ a (i + 1) d) (hi : a ≤ i) (h1 : κ (g d i) ≤ κ (g d (i + 1))) : Srt κ a (i + 2) d := by
  intro p q h2 h3 h4
  by_cases e : q = i + 1
  · subst e
    by_cases e2 : p = i
    · subst e2; exact h1
    · exact Int.le_trans (h p i h2 (by omega) (by omega)) h1
  · exact h p q h2 h3 (by omega)
set_option maxRecDepth 100000 in
theorem partial_ac (f : FuncId) (caps : List AV) (D : Int → Prop) (κ : Int → Int) (r ver a b : Nat) (c : List Int) (H : AH) (Q : AV → AH → Prop) (hC : Cmp f caps D κ r H) (hr : Rw r ver H c) (hD : All D c) (hl : c.length ≤ 1000000) (hab : a < b) (hb : b ≤ c.length) (hpre : 0 < a → ∀ k, a ≤ k → k < b → κ (g c (a - 1)) ≤ κ (g c k))
    (h : ∀ (H' : AH) (m : List Int) (t : Bool), Shuf a b c m → (t = true → Srt κ a b m) → Rw r ver H' m → KeepX r H H' → Q (.bool t) H') : AC Try.prog 104 [.slice (some r) 0 c.length ver 1 false, .int .i64 a, .int .i64 b, .func (.func f) [] caps] H Q := by
  refine L_body 141 Try.func104 rfl rfl ?_
  generalize hn : c.length = n at *
  refine L_reg [0, 1, 2, 3] (fun K hK => ?_)
  simp
  apply hK; clear hK K
  refine L_reg [0, 1, 2, 3, 9] (fun K hK => ?_)
  simp [wrap_i64 (a := (a : Int) + 1) (by omega)]
  apply hK; clear hK K
  refine L_reg [0, 1, 2, 3, 9, 10] (fun K hK => ?_)
  simp
  apply hK; clear hK K
  refine L_block (L_loopV [9, 10] (fun k vs H' => ∃ (i jj : Nat) (d : List Int), k = 5 - jj ∧ jj ≤ 5 ∧ a ≤ i ∧ i + 1 ≤ b ∧ Shuf a b c d ∧ Srt κ a (i + 1) d ∧ vs = [.int .i64 ((i : Int) + 1), .int .i64 jj] ∧ Rw r ver H' d ∧ KeepX r H H') _ [.int .i64 ((a : Int) + 1), .int .i64 (0 : Nat)] rfl ⟨a, 0, c, rfl, by omega, by omega, by omega, .refl _ _ _, fun p q h1 h2 h3 => by omega, rfl, hr, .refl r H⟩ ?_)
  rintro k _ H1 ⟨i, jj, d, rfl, hjj, hai, hib, hS, hso, rfl, hrow, hK⟩
  refine L_reg [0, 1, 2, 3, 9, 10, 16] (fun K hK => ?_)
  simp
  apply hK; clear hK K
  refine L_dec ((jj : Int) < 5) (by simp) (fun hlt => ?_) (fun hge => L_exit ?_)
  · refine L_block ?_
    have hjl : jj < 5 := by omega
    have hdl : d.length = n := by rw [hS.len]; exact hn
    have hdD := hD.perm hS.1
    have hCk := hC.keep hK
    refine L_blockR (fun e' H' => ∃ (i2 : Nat) (v16 v : AV), i ≤ i2 ∧ i2 + 1 ≤ b ∧ Srt κ a (i2 + 1) d ∧ (i2 + 1 < b → κ (g d (i2 + 1)) < κ (g d i2)) ∧ e' = [(0, .slice (some r) 0 n ver 1 false), (1, .int .i64 a), (2, .int .i64 b), (3, .func (.func f) [] caps), (9, .int .i64 ((i2 : Int) + 1)), (10, .int .i64 (jj : Nat)), (16, v16), (36, v)] ∧ H1 = H') (L_loopV [9] (fun k vs H' => ∃ i2 : Nat, k = b - i2 ∧ i ≤ i2 ∧ i2 + 1 ≤ b ∧ Srt κ a (i2 + 1) d ∧ vs = [.int .i64 ((i2 : Int) + 1)] ∧ H1 = H') _ [.int .i64 ((i : Int) + 1)] rfl ⟨i, rfl, by omega, by omega, hso, rfl, rfl⟩ ?_) ?_
    · rintro k _ _ ⟨i2, rfl, h1, h2, h3, rfl, rfl⟩
      by_cases hc : i2 + 1 < b
      · have hcq : (i2 : Int) + 1 < b := by omega
        have hx := hrow.ld (i := i2 + 1) (by omega)
        have hy := hrow.ld (i := i2) (by omega)
        have hw : IntKind.i64.wrap (i2 : Int) = (i2 : Int) := wrap_i64 (by omega)
        have t1 : ((i2 : Int) + 1).toNat = i2 + 1 := by omega
        have t2 : (0 : Int) ≤ (i2 : Int) + 1 := by omega
        have t3 : (i2 : Int) + 1 < (n : Int) := by omega
        have t4 : i2 < n := by omega
        refine L_regT mixed [0, 1, 2, 3, 9, 10, 16, 36] (by kernel_rfl) (fun K hK => ?_)
        simp [okFn_low, pickV, hw, t1, t2, t3, t4, hx, hy, hCk.1, hcq]
        refine exC_mk (fun Q hQ => hCk.2 H1 (.refl _ _) _ _ (hdD (i2 + 1) (by omega)) (hdD i2 (by omega)) Q hQ) ?_
        simp [pickV]
        apply hK; clear hK K
        by_cases hless : κ (g d (i2 + 1)) < κ (g d i2)
        · have := cmpS_neg.2 hless
          refine L_false (by simpa using this) (L_exit ?_)
          exact ⟨i2, _, _, h1, h2, h3, fun _ => hless, rfl, rfl⟩
        · have : ¬ cmpS (κ (g d (i2 + 1))) (κ (g d i2)) < 0 := fun h => hless (cmpS_neg.1 h)
          refine L_true (by simpa using this) ?_
          refine L_block ?_
          refine L_reg [0, 1, 2, 3, 9, 10, 16] (fun K hK => ?_)
          simp [wrap_i64 (a := (i2 : Int) + 1 + 1) (by omega)]
          apply hK; clear hK K
          exact ⟨b - (i2 + 1), [.int .i64 (((i2 + 1 : Nat) : Int) + 1)], by omega, by simp, i2 + 1, rfl, by omega, by omega, h3.more (by omega) (by omega), rfl, rfl⟩
      · have hcq : ¬ (i2 : Int) + 1 < b := by omega
        refine L_regT mixed [0, 1, 2, 3, 9, 10, 16, 36] (by kernel_rfl) (fun K hK => ?_)
        simp [pickV, hcq]
        apply hK; clear hK K
        refine L_false (by simp) (L_exit ?_)
        exact ⟨i2, _, _, h1, h2, h3, fun h => absurd h hc, rfl, rfl⟩
    rintro _ _ ⟨i2, v16, v36, hi2, hi2b, hso2, hstop, rfl, rfl⟩
    clear hso
    refine L_reg [0, 1, 2, 3, 9, 10, 41] (fun K hK => ?_)
    simp
    apply hK; clear hK K
    refine L_split rfl (fun heq => ?_) (fun hne => ?_)
    · have : i2 + 1 = b := by have := eq_of_beq heq; omega
      refine L_reg [8] (fun K hK => ?_)
      simp
      apply hK; clear hK K
      subst this
      exact L_ret ⟨.inr rfl, _, rfl, h H1 d true hS (fun _ => hso2) hrow hK⟩
    have hib2 : i2 + 1 < b := by
      have : ¬ (i2 : Int) + 1 = b := by simpa using hne
      omega
    refine L_reg [0, 1, 2, 3, 9, 10, 45] (fun K hK => ?_)
    simp [wrap_i64 (a := (b : Int) - a) (by omega)]
    apply hK; clear hK K
    refine L_dec ((b : Int) - a < 50) (by simp) (fun h50 => ?_) (fun h50 => ?_)
    · refine L_reg [8] (fun K hK => ?_)
      simp
      apply hK; clear hK K
      exact L_ret ⟨.inr rfl, _, rfl, h H1 d false hS (fun h => by cases h) hrow hK⟩
    have hx := hrow.ld (i := i2 + 1) (by omega)
    have hy := hrow.ld (i := i2) (by omega)
    have hw : IntKind.i64.wrap (i2 : Int) = (i2 : Int) := wrap_i64 (by omega)
    have t1 : ((i2 : Int) + 1).toNat = i2 + 1 := by omega
    have t2 : (0 : Int) ≤ (i2 : Int) + 1 := by omega
    have t3 : (i2 : Int) + 1 < (n : Int) := by omega
    have t4 : i2 < n := by omega
    obtain ⟨H2, H3, e1, e2, e3, e4⟩ := hrow.swap (i := i2 + 1) (j := i2) (by omega) (by omega)
    refine L_regT mixed [0, 1, 2, 3, 9, 10] (by kernel_rfl) (fun K hK => ?_)
    simp [hw, t1, t2, t3, t4, hx, hy, e1, e2]
    apply hK; clear hK K
    have w0 := sw_i (c := d) (i := i2 + 1) (j := i2) (by omega) (by omega)
    have w1 := sw_j (c := d) (i := i2 + 1) (j := i2) (by omega) (by omega)
    have w2 := fun (k : Nat) (k1 : k ≠ i2 + 1) (k2 : k ≠ i2) => sw_o (c := d) (i := i2 + 1) (j := i2) (by omega) (by omega) k1 k2
    have hS3 : Shuf a b c (sw d (i2 + 1) i2) := hS.trans (.swap (by omega) (by omega) (by omega))
    have hole : ∀ p q, a ≤ p → p < q → q ≤ i2 → q ≠ i2 → κ (g (sw d (i2 + 1) i2) p) ≤ κ (g (sw d (i2 + 1) i2) q) := by
      intro p q h1 h2 h3 h4
      rw [w2 p (by omega) (by omega), w2 q (by omega) (by omega)]
      exact hso2 p q h1 h2 (by omega)
    have hK3 := hK.trans e4
    generalize sw d (i2 + 1) i2 = d3 at e3 hS3 hole
    clear w0 w1 w2 e1 e2 hx hy hw t1 t2 t3 t4 hrow hK hdD hCk hdl hS hstop hso2 e4
    clear hlt hne h50
    clear H2
    have hrow := e3
    have hS := hS3
    have hK := hK3
    clear e3 hS3 hK3
    refine L_reg [0, 1, 2, 3, 9, 10, 65] (fun K hK => ?_)
    simp [wrap_i64 (a := (i2 : Int) + 1 - a) (by omega)]
    apply hK; clear hK K
    refine L_condK [0, 1, 2, 3, 9, 10] (fun e' H' => ∃ d : List Int, Shuf a b c d ∧ Srt κ a (i2 + 1) d ∧ Rw r ver H' d ∧ KeepX r H H' ∧ e' = [(0, .slice (some r) 0 n ver 1 false), (1, .int .i64 a), (2, .int .i64 b), (3, .func (.func f) [] caps), (9, .int .i64 ((i2 : Int) + 1)), (10, .int .i64 (jj : Nat))]) (t := decide ((2 : Int) ≤ (i2 : Int) + 1 - a)) (by simp) (fun ht => ?_) (fun ht => ?_) ?_
    · have h2 : (2 : Int) ≤ (i2 : Int) + 1 - a := of_decide_eq_true ht
      refine L_reg [0, 1, 2, 3, 9, 10, 11] (fun K hK => ?_)
      simp [wrap_i64 (a := (i2 : Int)) (by omega)]
      apply hK; clear hK K
      refine L_block (L_loopV [11] (fun k vs H' => ∃ (j : Nat) (d : List Int), k = j ∧ a ≤ j ∧ j ≤ i2 ∧ Shuf a b c d ∧ (∀ p q, a ≤ p → p < q → q ≤ i2 → q ≠ j → κ (g d p) ≤ κ (g d q)) ∧ vs = [.int .i64 j] ∧ Rw r ver H' d ∧ KeepX r H H') _ [.int .i64 i2] rfl ⟨i2, d3, rfl, by omega, by omega, hS, hole, rfl, hrow, hK⟩ ?_)
      clear hS hole hrow hK
      clear d3 H3 d H1
      rintro k _ H1 ⟨j, d, rfl, haj, hji, hS, ho, rfl, hrow, hK⟩
      have hdl : d.length = n := by rw [hS.len]; exact hn
      have hdD := hD.perm hS.1
      have hCk := hC.keep hK
      cases k with
      | zero =>
        refine L_reg [0, 1, 2, 3, 9, 10, 11, 69] (fun K hK => ?_)
        simp
        apply hK; clear hK K
        refine L_false (by simp) (L_exit ?_)
        exact ⟨d, hS, fun p q h1 h2 h3 => ho p q h1 h2 (by omega) (by omega), hrow, hK, rfl⟩
      | succ j =>
        refine L_reg [0, 1, 2, 3, 9, 10, 11, 69] (fun K hK => ?_)
        simp
        apply hK; clear hK K
        refine L_true (by simp; omega) ?_
        refine L_block ?_
        have hx := hrow.ld (i := j + 1) (by omega)
        have hy := hrow.ld (i := j) (by omega)
        have hw : IntKind.i64.wrap (j : Int) = (j : Int) := wrap_i64 (by omega)
        have t1 : ((j : Int) + 1).toNat = j + 1 := by omega
        have t2 : (0 : Int) ≤ (j : Int) + 1 := by omega
        have t3 : (j : Int) + 1 < (n : Int) := by omega
        have t4 : j < n := by omega
        refine L_regT mixed [0, 1, 2, 3, 9, 10, 11, 84] (by kernel_rfl) (fun K hK => ?_)
        simp [okFn_low, pickV, hw, t1, t2, t3, t4, hx, hy, hCk.1]
        refine exC_mk (fun Q hQ => hCk.2 H1 (.refl _ _) _ _ (hdD (j + 1) (by omega)) (hdD j (by omega)) Q hQ) ?_
        simp [pickV]
        apply hK; clear hK K
        by_cases hless : κ (g d (j + 1)) < κ (g d j)
        · have := cmpS_neg.2 hless
          refine L_false (by simpa using this) ?_
          have haj2 : a ≤ j := by
            by_cases e : a ≤ j
            · exact e
            · have ea : a = j + 1 := by omega
              exfalso
              have h5 := hS.all (by omega) (p := fun x => κ (g c (a - 1)) ≤ κ x) (fun k h6 h7 => hpre (by omega) k h6 h7) (j + 1) (by omega) (by omega)
              rw [← hS.2 (a - 1) (by omega), show a - 1 = j by omega] at h5
              have h5 : κ (g d j) ≤ κ (g d (j + 1)) := h5
              omega
          obtain ⟨H2, H3, e1, e2, e3, e4⟩ := hrow.swap (i := j + 1) (j := j) (by omega) (by omega)
          refine L_regT mixed [0, 1, 2, 3, 9, 10, 11] (by kernel_rfl) (fun K hK => ?_)
          simp [hw, t1, t2, t3, t4, hx, hy, e1, e2]
          apply hK; clear hK K
          refine L_reg [0, 1, 2, 3, 9, 10, 11] (fun K hK => ?_)
          simp [hw]
          apply hK; clear hK K
          refine ⟨j, [.int .i64 (j : Nat)], by omega, by simp, j, _, rfl, by omega, by omega, hS.trans (.swap (by omega) (by omega) (by omega)), fun p q h1 h2 h3 h4 => ?_, rfl, e3, hK.trans e4⟩
          have w0 := sw_i (c := d) (i := j + 1) (j := j) (by omega) (by omega)
          have w1 := sw_j (c := d) (i := j + 1) (j := j) (by omega) (by omega)
          have w2 := fun (k : Nat) (k1 : k ≠ j + 1) (k2 : k ≠ j) => sw_o (c := d) (i := j + 1) (j := j) (by omega) (by omega) k1 k2
          by_cases q1 : q = j + 1
          · subst q1
            by_cases p1 : p = j
            · subst p1; rw [w0, w1]; omega
            · rw [w0, w2 p (by omega) p1]
              exact ho p j h1 (by omega) (by omega) (by omega)
          · rw [w2 q q1 h4]
            by_cases p1 : p = j
            · subst p1; rw [w1]
              exact ho (p + 1) q (by omega) (by omega) h3 (by omega)
            · by_cases p2 : p = j + 1
              · subst p2; rw [w0]
                exact ho j q (by omega) (by omega) h3 (by omega)
              · rw [w2 p p2 p1]
                exact ho p q h1 h2 h3 (by omega)
        · have : ¬ cmpS (κ (g d (j + 1))) (κ (g d j)) < 0 := fun h => hless (cmpS_neg.1 h)
          refine L_true (by simpa using this) (L_exit ?_)
          refine ⟨d, hS, fun p q h1 h2 h3 => ?_, hrow, hK, rfl⟩
          by_cases q1 : q = j + 1
          · subst q1
            by_cases p1 : p = j
            · subst p1; omega
            · have := ho p j h1 (by omega) (by omega) (by omega)
              omega
          · exact ho p q h1 h2 (by omega) q1
    · have h2 : ¬ (2 : Int) ≤ (i2 : Int) + 1 - a := of_decide_eq_false ht
      exact ⟨d3, hS, fun p q h1 h2 h3 => by omega, hrow, hK, by simp⟩
    clear hS hole hrow hK
    clear d3 H3 d H1
    rintro _ H1 ⟨d, hS, hso, hrow, hK, rfl⟩
    refine L_reg [0, 1, 2, 3, 9, 10, 104] (fun K hK => ?_)
    simp [wrap_i64 (a := (b : Int) - ((i2 : Int) + 1)) (by omega)]
    apply hK; clear hK K
    refine L_dec ((2 : Int) ≤ (b : Int) - ((i2 : Int) + 1)) (by simp) (fun h2 => ?_) (fun h2 => ?_)
    · refine L_reg [0, 1, 2, 3, 9, 10, 12] (fun K hK => ?_)
      simp [wrap_i64 (a := (i2 : Int) + 1 + 1) (by omega)]
      apply hK; clear hK K
      refine L_blockR (fun e' H' => ∃ (d : List Int) (v12 v x : AV), Shuf a b c d ∧ Srt κ a (i2 + 1) d ∧ Rw r ver H' d ∧ KeepX r H H' ∧ (e' = [(0, .slice (some r) 0 n ver 1 false), (1, .int .i64 a), (2, .int .i64 b), (3, .func (.func f) [] caps), (9, .int .i64 ((i2 : Int) + 1)), (10, .int .i64 (jj : Nat)), (12, v12), (109, v)] ∨ e' = [(0, .slice (some r) 0 n ver 1 false), (1, .int .i64 a), (2, .int .i64 b), (3, .func (.func f) [] caps), (9, .int .i64 ((i2 : Int) + 1)), (10, .int .i64 (jj : Nat)), (12, v12), (124, v)])) (L_loopV [12] (fun k vs H' => ∃ (j : Nat) (d : List Int), k = b - j ∧ i2 + 1 ≤ j ∧ j + 1 ≤ b ∧ Shuf a b c d ∧ Srt κ a (i2 + 1) d ∧ vs = [.int .i64 ((j : Int) + 1)] ∧ Rw r ver H' d ∧ KeepX r H H') _ [.int .i64 ((i2 : Int) + 1 + 1)] rfl ⟨i2 + 1, d, rfl, by omega, by omega, hS, hso, rfl, hrow, hK⟩ ?_) ?_
      · clear hS hso hrow hK
        clear d H1
        rintro k _ H1 ⟨j, d, rfl, h1, h2, hS, hso, rfl, hrow, hK⟩
        have hdl : d.length = n := by rw [hS.len]; exact hn
        have hdD := hD.perm hS.1
        have hCk := hC.keep hK
        refine L_reg [0, 1, 2, 3, 9, 10, 12, 109] (fun K hK => ?_)
        simp
        apply hK; clear hK K
        refine L_dec ((j : Int) + 1 < b) (by simp) (fun hlt => ?_) (fun hge => L_exit ?_)
        · refine L_block ?_
          have hx := hrow.ld (i := j + 1) (by omega)
          have hy := hrow.ld (i := j) (by omega)
          have hw : IntKind.i64.wrap (j : Int) = (j : Int) := wrap_i64 (by omega)
          have t1 : ((j : Int) + 1).toNat = j + 1 := by omega
          have t2 : (0 : Int) ≤ (j : Int) + 1 := by omega
          have t3 : (j : Int) + 1 < (n : Int) := by omega
          have t4 : j < n := by omega
          refine L_regT mixed [0, 1, 2, 3, 9, 10, 12, 124] (by kernel_rfl) (fun K hK => ?_)
          simp [okFn_low, pickV, hw, t1, t2, t3, t4, hx, hy, hCk.1]
          refine exC_mk (fun Q hQ => hCk.2 H1 (.refl _ _) _ _ (hdD (j + 1) (by omega)) (hdD j (by omega)) Q hQ) ?_
          simp [pickV]
          apply hK; clear hK K
          by_cases hless : κ (g d (j + 1)) < κ (g d j)
          · have := cmpS_neg.2 hless
            refine L_false (by simpa using this) ?_
            obtain ⟨H2, H3, e1, e2, e3, e4⟩ := hrow.swap (i := j + 1) (j := j) (by omega) (by omega)
            refine L_regT mixed [0, 1, 2, 3, 9, 10, 12] (by kernel_rfl) (fun K hK => ?_)
            simp [hw, t1, t2, t3, t4, hx, hy, e1, e2]
            apply hK; clear hK K
            refine L_reg [0, 1, 2, 3, 9, 10, 12] (fun K hK => ?_)
            simp [wrap_i64 (a := (j : Int) + 1 + 1) (by omega)]
            apply hK; clear hK K
            refine ⟨b - (j + 1), [.int .i64 (((j + 1 : Nat) : Int) + 1)], by omega, by simp, j + 1, _, rfl, by omega, by omega, hS.trans (.swap (by omega) (by omega) (by omega)), fun p q h1 h2 h3 => ?_, rfl, e3, hK.trans e4⟩
            have w2 := fun (k : Nat) (k1 : k ≠ j + 1) (k2 : k ≠ j) => sw_o (c := d) (i := j + 1) (j := j) (by omega) (by omega) k1 k2
            rw [w2 p (by omega) (by omega), w2 q (by omega) (by omega)]
            exact hso p q h1 h2 h3
          · have : ¬ cmpS (κ (g d (j + 1))) (κ (g d j)) < 0 := fun h => hless (cmpS_neg.1 h)
            refine L_true (by simpa using this) (L_exit ?_)
            exact ⟨d, _, _, .undef, hS, hso, hrow, hK, .inr rfl⟩
        · exact ⟨d, _, _, .undef, hS, hso, hrow, hK, .inl rfl⟩
      clear hS hso hrow hK
      clear d H1
      rintro _ H1 ⟨d, v12, v, -, hS, hso, hrow, hK, rfl | rfl⟩
      · refine L_reg [0, 1, 2, 3, 9, 10] (fun K hK => ?_)
        simp [wrap_i64 (a := (jj : Int) + 1) (by omega)]
        apply hK; clear hK K
        exact ⟨5 - (jj + 1), [.int .i64 ((i2 : Int) + 1), .int .i64 (jj + 1 : Nat)], by omega, by simp, i2, jj + 1, d, rfl, by omega, by omega, by omega, hS, hso, rfl, hrow, hK⟩
      · refine L_reg [0, 1, 2, 3, 9, 10] (fun K hK => ?_)
        simp [wrap_i64 (a := (jj : Int) + 1) (by omega)]
        apply hK; clear hK K
        exact ⟨5 - (jj + 1), [.int .i64 ((i2 : Int) + 1), .int .i64 (jj + 1 : Nat)], by omega, by simp, i2, jj + 1, d, rfl, by omega, by omega, by omega, hS, hso, rfl, hrow, hK⟩
    · refine L_reg [0, 1, 2, 3, 9, 10] (fun K hK => ?_)
      simp [wrap_i64 (a := (jj : Int) + 1) (by omega)]
      apply hK; clear hK K
      exact ⟨5 - (jj + 1), [.int .i64 ((i2 : Int) + 1), .int .i64 (jj + 1 : Nat)], by omega, by simp, i2, jj + 1, d, rfl, by omega, by omega, by omega, hS, hso, rfl, hrow, hK⟩
  · refine L_reg [8] (fun K hK => ?_)
    simp
    apply hK; clear hK K
    exact L_ret ⟨.inr rfl, _, rfl, h H1 d false hS (fun h => by cases h) hrow hK⟩
end Go.Proofs.Ytjfmiohgkcjdnaa

/- Sorting by a comparison: all of it. -/
namespace Go.Proofs.Ytjfmiohgkcjdnaa
open Go Go.Proofs.Ytjfmiohgkcjdnaa.AX

/-- Sorted, but for what lies between a' and b'. -/
def OrdEx (κ : Int → Int) (a b a' b' : Nat) (d : List Int) : Prop := ∀ p q, a ≤ p → p < q → q < b → ¬ (a' ≤ p ∧ q < b') → κ (g d p) ≤ κ (g d q)
def Pre (κ : Int → Int) (a b : Nat) (d : List Int) : Prop := 0 < a → ∀ k, a ≤ k → k < b → κ (g d (a - 1)) ≤ κ (g d k)
theorem OrdEx.mix {κ : Int → Int} {a b a' b' : Nat} {d m : List Int} (h : OrdEx κ a b a' b' d) (hS : Shuf a' b' d m) (hb : b' ≤ d.length) (haa : a ≤ a') (hbb : b' ≤ b) : OrdEx κ a b a' b' m := by
  intro p q h1 h2 h3 h4
  by_cases hp : a' ≤ p ∧ p < b'
  · have hq : b' ≤ q := by omega
    rw [hS.2 q (by omega)]
    exact hS.all hb (p := fun x => κ x ≤ κ (g d q)) (fun k k1 k2 => h k q (by omega) (by omega) h3 (by omega)) p hp.1 hp.2
  · rw [hS.2 p (by omega)]
    by_cases hq : a' ≤ q ∧ q < b'
    · exact hS.all hb (p := fun x => κ (g d p) ≤ κ x) (fun k k1 k2 => h p k h1 (by omega) (by omega) (by omega)) q hq.1 hq.2
    · rw [hS.2 q (by omega)]
      exact h p q h1 h2 h3 h4
theorem Pre.mix {κ : Int → Int} {a b : Nat} {d m : List Int} (h : Pre κ a b d) (hS : Shuf a b d m) (hb : b ≤ d.length) : Pre κ a b m := by
  intro h0 k k1 k2
  rw [hS.2 (a - 1) (by omega)]
  exact hS.all hb (p := fun x => κ (g d (a - 1)) ≤ κ x) (fun k k1 k2 => h h0 k k1 k2) k k1 k2
theorem OrdEx.srt {κ : Int → Int} {a b a' b' : Nat} {m : List Int} (h : OrdEx κ a b a' b' m) (hs : Srt κ a' b' m) : Srt κ a b m := by
  intro p q h1 h2 h3
  by_cases e : a' ≤ p ∧ q < b'
  · exact hs p q e.1 h2 e.2
  · exact h p q h1 h2 h3 e
theorem pivot_ac' (f : FuncId) (caps : List AV) (D : Int → Prop) (κ : Int → Int) (r ver a b l : Nat) (hbl : b = a + l) (c : List Int) (n : Nat) (hn : c.length = n) (H : AH) (Q : AV → AH → Prop) (hC : Cmp f caps D κ r H) (hr : Rw r ver H c) (hrl : r < H.length) (hD : All D c) (hlen : n ≤ 1000000) (hl : 12 < l) (hb : b ≤ n)
    (h : ∀ (H' : AH) (x : Nat) (hint : Int), a ≤ x ∧ x < b → KeepX r H H' → Rw r ver H' c → Q (.tuple [.int .i64 x, .int .i64 hint]) H') : AC Try.prog 102 [.slice (some r) 0 n ver 1 false, .int .i64 a, .int .i64 b, .func (.func f) [] caps] H Q := by
  subst hbl; subst hn; exact pivot_ac f caps D κ r ver a l c H Q hC hr hrl hD hlen hl hb h
theorem break_ac' (cv : AV) (r ver a b l : Nat) (hbl : b = a + l) (c : List Int) (n : Nat) (hn : c.length = n) (H : AH) (Q : AV → AH → Prop) (hr : Rw r ver H c) (hrl : r < H.length) (hlen : n ≤ 127) (hl : 12 < l) (hb : b ≤ n)
    (h : ∀ (H' : AH) (m : List Int), Shuf a b c m → Rw r ver H' m → KeepX r H H' → Q (.tuple []) H') : AC Try.prog 101 [.slice (some r) 0 n ver 1 false, .int .i64 a, .int .i64 b, cv] H Q := by
  subst hbl; subst hn; exact break_ac cv r ver a l c H Q hr hrl hlen hl hb h
theorem heapSort_ac' (f : FuncId) (caps : List AV) (D : Int → Prop) (κ : Int → Int) (r ver a b l : Nat) (hbl : b = a + l) (c : List Int) (n : Nat) (hn : c.length = n) (H : AH) (Q : AV → AH → Prop) (hC : Cmp f caps D κ r H) (hr : Rw r ver H c) (hD : All D c) (hl : n ≤ 1000000) (hb : b ≤ n) (hl1 : 1 ≤ l)
    (h : ∀ (H' : AH) (m : List Int), Shuf a b c m → Srt κ a b m → Rw r ver H' m → KeepX r H H' → Q (.tuple []) H') : AC Try.prog 100 [.slice (some r) 0 n ver 1 false, .int .i64 a, .int .i64 b, .func (.func f) [] caps] H Q := by
  subst hbl; subst hn; exact heapSort_ac f caps D κ r ver a l c H Q hC hr hD hl hb hl1 h
theorem partEq_ac' (f : FuncId) (caps : List AV) (D : Int → Prop) (κ : Int → Int) (r ver a b pv : Nat) (c : List Int) (n : Nat) (hn : c.length = n) (H : AH) (Q : AV → AH → Prop) (hC : Cmp f caps D κ r H) (hr : Rw r ver H c) (hD : All D c) (hl : n ≤ 1000000) (hpa : a ≤ pv) (hpb : pv < b) (hb : b ≤ n)
    (h : ∀ (H' : AH) (m : List Int) (p : Nat), a < p → p ≤ b → Shuf a b c m → (∀ k, a ≤ k → k < p → κ (g m k) ≤ κ (g c pv)) → (∀ k, p ≤ k → k < b → κ (g c pv) < κ (g m k)) → Rw r ver H' m → KeepX r H H' → Q (.int .i64 p) H') : AC Try.prog 105 [.slice (some r) 0 n ver 1 false, .int .i64 a, .int .i64 b, .int .i64 pv, .func (.func f) [] caps] H Q := by
  subst hn; exact partEq_ac f caps D κ r ver a b pv c H Q hC hr hD hl hpa hpb hb h
theorem part_ac' (f : FuncId) (caps : List AV) (D : Int → Prop) (κ : Int → Int) (r ver a b pv : Nat) (c : List Int) (n : Nat) (hn : c.length = n) (H : AH) (Q : AV → AH → Prop) (hC : Cmp f caps D κ r H) (hr : Rw r ver H c) (hD : All D c) (hl : n ≤ 1000000) (hpa : a ≤ pv) (hpb : pv < b) (hb : b ≤ n)
    (h : ∀ (H' : AH) (m : List Int) (p : Nat) (bb : Bool), a ≤ p → p < b → Shuf a b c m → (∀ k, a ≤ k → k < p → κ (g m k) ≤ κ (g m p)) → (∀ k, p < k → k < b → κ (g m p) ≤ κ (g m k)) → Rw r ver H' m → KeepX r H H' → Q (.tuple [.int .i64 p, .bool bb]) H') : AC Try.prog 106 [.slice (some r) 0 n ver 1 false, .int .i64 a, .int .i64 b, .int .i64 pv, .func (.func f) [] caps] H Q := by
  subst hn; exact part_ac f caps D κ r ver a b pv c H Q hC hr hD hl hpa hpb hb h
set_option maxRecDepth 100000 in
theorem pdq_ac (f : FuncId) (caps : List AV) (D : Int → Prop) (κ : Int → Int) (r ver n : Nat) (hn127 : n ≤ 127) : ∀ (N a b lim : Nat) (c : List Int) (H : AH) (Q : AV → AH → Prop), b - a < N → Cmp f caps D κ r H → Rw r ver H c → r < H.length → All D c → c.length = n → a ≤ b → b ≤ n → lim ≤ 1000 → Pre κ a b c →
    (∀ (H' : AH) (m : List Int), Shuf a b c m → Srt κ a b m → Rw r ver H' m → KeepX r H H' → Q (.tuple []) H') → AC Try.prog 93 [.slice (some r) 0 n ver 1 false, .int .i64 a, .int .i64 b, .int .i64 lim, .func (.func f) [] caps] H Q := by
  intro N
  induction N with
  | zero => intro a b lim c H Q h; omega
  | succ N ih =>
  intro a b lim c H Q hN hC hr hrl hD hn hab hb hlim hpre h
  refine L_body 148 Try.func93 rfl rfl ?_
  refine L_reg [0, 1, 2, 3, 4, 10] (fun K hK => ?_)
  simp
  apply hK; clear hK K
  refine L_reg [0, 1, 2, 3, 4, 10, 11] (fun K hK => ?_)
  simp
  apply hK; clear hK K
  refine L_block (L_loopV [1, 2, 3, 10, 11] (fun k vs H' => ∃ (a' b' lm : Nat) (wb wp : Bool) (d : List Int), k = b' - a' ∧ a ≤ a' ∧ a' ≤ b' ∧ b' ≤ b ∧ lm ≤ 1000 ∧ Shuf a b c d ∧ OrdEx κ a b a' b' d ∧ Pre κ a' b' d ∧ vs = [.int .i64 a', .int .i64 b', .int .i64 lm, .bool wb, .bool wp] ∧ Rw r ver H' d ∧ KeepX r H H') _ [.int .i64 a, .int .i64 b, .int .i64 lim, .bool true, .bool true] rfl ⟨a, b, lim, true, true, c, rfl, by omega, hab, by omega, hlim, .refl _ _ _, fun p q h1 h2 h3 h4 => by omega, hpre, rfl, hr, .refl r H⟩ ?_)
  rintro _ _ H1 ⟨a', b', lm, wb, wp, d, rfl, haa, hab', hbb, hlm, hS, hO, hP, rfl, hrow, hK⟩
  refine L_block ?_
  obtain ⟨l, hbl⟩ : ∃ l, b' = a' + l := ⟨b' - a', by omega⟩
  have hdl : d.length = n := by rw [hS.len]; exact hn
  have hdD := hD.perm hS.1
  have hCk := hC.keep hK
  have hr1 : r < H1.length := by have := hK.1; omega
  refine L_reg [0, 1, 2, 3, 4, 10, 11, 12] (fun K hK => ?_)
  simp [show ((b' : Int) - a') = l by omega, wrap_i64 (a := (l : Int)) (by omega)]
  apply hK; clear hK K
  refine L_reg [0, 1, 2, 3, 4, 10, 11, 12, 25] (fun K hK => ?_)
  simp
  apply hK; clear hK K
  refine L_dec ((l : Int) ≤ 12) (by simp) (fun h12 => ?_) (fun h12 => ?_)
  · refine L_reg [] (fun K hK0 => ?_)
    simp [okFn_low]
    have := insertion_ac f caps D κ r ver a' b' d H1 (fun v H' => K [] H') hCk hrow hdD (by omega) (by omega) (by omega) (fun H2 m m1 m2 m3 m4 => ?_)
    · rw [hdl] at this; exact this
    apply hK0; clear hK0 K
    exact L_ret ⟨.inr rfl, _, rfl, h H2 m (hS.trans (m1.wide haa hbb)) ((hO.mix m1 (by omega) haa hbb).srt m2) m3 (hK.trans m4)⟩
  refine L_reg [0, 1, 2, 3, 4, 10, 11, 12, 32] (fun K hK => ?_)
  simp
  apply hK; clear hK K
  refine L_split rfl (fun h0 => ?_) (fun h0 => ?_)
  · refine L_reg [] (fun K hK0 => ?_)
    simp [okFn_low]
    refine heapSort_ac' f caps D κ r ver a' b' l hbl d n hdl H1 _ hCk hrow hdD (by omega) (by omega) (by omega) (fun H2 m m1 m2 m3 m4 => ?_)
    simp
    apply hK0; clear hK0 K
    exact L_ret ⟨.inr rfl, _, rfl, h H2 m (hS.trans (m1.wide haa hbb)) ((hO.mix m1 (by omega) haa hbb).srt m2) m3 (hK.trans m4)⟩
  have hlm0 : 1 ≤ lm := by
    have : (lm : Int) ≠ 0 := by simpa using h0
    omega
  refine L_reg [0, 1, 2, 3, 4, 10, 11, 12, 39] (fun K hK => ?_)
  simp
  apply hK; clear hK K
  refine L_condK [0, 1, 2, 3, 4, 10, 11, 12] (fun e' H' => ∃ (lm : Nat) (d : List Int), lm ≤ 1000 ∧ Shuf a b c d ∧ OrdEx κ a b a' b' d ∧ Pre κ a' b' d ∧ Rw r ver H' d ∧ KeepX r H H' ∧ e' = [(0, .slice (some r) 0 n ver 1 false), (1, .int .i64 a'), (2, .int .i64 b'), (3, .int .i64 (lm : Nat)), (4, .func (.func f) [] caps), (10, .bool wb), (11, .bool wp), (12, .int .i64 l)]) (t := !wb) rfl (fun ht => ?_) (fun ht => ?_) ?_
  · refine L_reg [0, 1, 2, 3, 4, 10, 11, 12] (fun K hK0 => ?_)
    simp [okFn_low]
    refine break_ac' _ r ver a' b' l hbl d n hdl H1 _ hrow hr1 hn127 (by omega) (by omega) (fun H2 m m1 m3 m4 => ?_)
    simp
    apply hK0; clear hK0 K
    obtain ⟨lm', rfl⟩ : ∃ x, lm = x + 1 := ⟨lm - 1, by omega⟩
    refine L_reg [0, 1, 2, 3, 4, 10, 11, 12] (fun K hK => ?_)
    simp [wrap_i64 (a := (lm' : Int)) (by omega)]
    apply hK; clear hK K
    exact ⟨lm', m, by omega, hS.trans (m1.wide haa hbb), hO.mix m1 (by omega) haa hbb, hP.mix m1 (by omega), m3, hK.trans m4, by simp⟩
  · exact ⟨lm, d, hlm, hS, hO, hP, hrow, hK, by simp⟩
  clear hlm hS hO hP hrow hK hdl hdD hCk hr1 hlm0 h0
  clear d H1 lm
  rintro _ H1 ⟨lm, d, hlm, hS, hO, hP, hrow, hK, rfl⟩
  have hdl : d.length = n := by rw [hS.len]; exact hn
  have hdD := hD.perm hS.1
  have hr1 : r < H1.length := by have := hK.1; omega
  refine L_reg [0, 1, 2, 3, 4, 10, 11, 12, 13, 14] (fun K hK0 => ?_)
  simp [okFn_low]
  refine pivot_ac' f caps D κ r ver a' b' l hbl d n hdl H1 _ (hC.keep hK) hrow hr1 hdD (by omega) (by omega) (by omega) (fun H2 pv hint hpv m4 m3 => ?_)
  simp
  apply hK0; clear hK0 K
  have hK2 := hK.trans m4
  clear hrow hK hr1
  refine L_reg [0, 1, 2, 3, 4, 10, 11, 12, 13, 14, 56] (fun K hK => ?_)
  simp
  apply hK; clear hK K
  refine L_condK [0, 1, 2, 3, 4, 10, 11, 12, 13, 14] (fun e' H' => ∃ (pv : Nat) (hint : Int) (d : List Int), (a' ≤ pv ∧ pv < b') ∧ Shuf a b c d ∧ OrdEx κ a b a' b' d ∧ Pre κ a' b' d ∧ Rw r ver H' d ∧ KeepX r H H' ∧ e' = [(0, .slice (some r) 0 n ver 1 false), (1, .int .i64 a'), (2, .int .i64 b'), (3, .int .i64 lm), (4, .func (.func f) [] caps), (10, .bool wb), (11, .bool wp), (12, .int .i64 l), (13, .int .i64 (pv : Nat)), (14, .int .i64 hint)]) (t := (hint == 2)) rfl (fun ht => ?_) (fun ht => ?_) ?_
  · refine L_reg [0, 1, 2, 3, 4, 10, 11, 12, 13] (fun K hK0 => ?_)
    simp [okFn_low]
    have := reverse_ac (.func (.func f) [] caps) r ver a' b' d H2 (fun v H' => K [(0, .slice (some r) 0 n ver 1 false), (1, .int .i64 a'), (2, .int .i64 b'), (3, .int .i64 lm), (4, .func (.func f) [] caps), (10, .bool wb), (11, .bool wp), (12, .int .i64 l), (13, .int .i64 pv)] H') m3 (by omega) (by omega) (by omega) (fun H3 m q1 q3 q4 => ?_)
    · rw [hdl] at this; exact this
    apply hK0; clear hK0 K
    obtain ⟨pv2, hpv2⟩ : ∃ x : Nat, (b' : Int) - 1 - ((pv : Int) - a') = x := ⟨b' - 1 - (pv - a'), by omega⟩
    refine L_reg [0, 1, 2, 3, 4, 10, 11, 12, 13] (fun K hK => ?_)
    simp [wrap_i64 (a := (b' : Int) - 1) (by omega), wrap_i64 (a := (pv : Int) - a') (by omega), hpv2, wrap_i64 (a := (pv2 : Int)) (by omega)]
    apply hK; clear hK K
    refine L_reg [0, 1, 2, 3, 4, 10, 11, 12, 13, 14] (fun K hK => ?_)
    simp
    apply hK; clear hK K
    exact ⟨pv2, 1, m, by omega, hS.trans (q1.wide haa hbb), hO.mix q1 (by omega) haa hbb, hP.mix q1 (by omega), q3, hK2.trans q4, by simp⟩
  · exact ⟨pv, hint, d, hpv, hS, hO, hP, m3, hK2, by simp⟩
  clear hS hO hP hdl hdD m3 m4 hK2 hpv
  clear d H1 H2 pv hint
  rintro _ H1 ⟨pv, hint, d, hpv, hS, hO, hP, hrow, hK, rfl⟩
  have hdl : d.length = n := by rw [hS.len]; exact hn
  have hdD := hD.perm hS.1
  refine L_reg [0, 1, 2, 3, 4, 10, 11, 12, 13, 75] (fun K hK0 => ?_)
  have hK2 : ∀ t : Bool, K [(0, .slice (some r) 0 n ver 1 false), (1, .int .i64 a'), (2, .int .i64 b'), (3, .int .i64 lm), (4, .func (.func f) [] caps), (10, .bool wb), (11, .bool wp), (12, .int .i64 l), (13, .int .i64 pv), (75, .bool t)] H1 := by
    intro t
    refine hK0 _ _ ?_
    clear hK0 K
    refine L_condK [0, 1, 2, 3, 4, 10, 11, 12, 13] (fun e' H' => ∃ (d : List Int), Shuf a b c d ∧ OrdEx κ a b a' b' d ∧ Pre κ a' b' d ∧ Rw r ver H' d ∧ KeepX r H H' ∧ e' = [(0, .slice (some r) 0 n ver 1 false), (1, .int .i64 a'), (2, .int .i64 b'), (3, .int .i64 lm), (4, .func (.func f) [] caps), (10, .bool wb), (11, .bool wp), (12, .int .i64 l), (13, .int .i64 (pv : Nat))]) (t := t) rfl (fun ht => ?_) (fun ht => ?_) ?_
    · refine L_reg [0, 1, 2, 3, 4, 10, 11, 12, 13, 80] (fun K hK0 => ?_)
      simp [okFn_low]
      have := partial_ac f caps D κ r ver a' b' d H1 (fun v H' => K [(0, .slice (some r) 0 n ver 1 false), (1, .int .i64 a'), (2, .int .i64 b'), (3, .int .i64 lm), (4, .func (.func f) [] caps), (10, .bool wb), (11, .bool wp), (12, .int .i64 l), (13, .int .i64 pv), (80, v)] H') (hC.keep hK) hrow hdD (by omega) (by omega) (by omega) hP (fun H3 m t q1 q2 q3 q4 => ?_)
      · rw [hdl] at this; exact this
      apply hK0; clear hK0 K
      cases t with
      | true =>
        refine L_true rfl ?_
        exact L_ret ⟨.inr rfl, _, rfl, h H3 m (hS.trans (q1.wide haa hbb)) ((hO.mix q1 (by omega) haa hbb).srt (q2 rfl)) q3 (hK.trans q4)⟩
      | false =>
        refine L_false rfl ?_
        exact ⟨m, hS.trans (q1.wide haa hbb), hO.mix q1 (by omega) haa hbb, hP.mix q1 (by omega), q3, hK.trans q4, by simp⟩
    · exact ⟨d, hS, hO, hP, hrow, hK, by simp⟩
    clear hS hO hP hrow hK hdl hdD
    clear d H1
    rintro _ H1 ⟨d, hS, hO, hP, hrow, hK, rfl⟩
    have hdl : d.length = n := by rw [hS.len]; exact hn
    have hdD := hD.perm hS.1
    have hCk := hC.keep hK
    refine L_regT mixed [0, 1, 2, 3, 4, 10, 11, 12, 13, 97] (by kernel_rfl) (fun K hK0 => ?_)
    have hK2 : ∀ t : Bool, (t = true → 0 < a' ∧ ¬ κ (g d (a' - 1)) < κ (g d pv)) → K [(0, .slice (some r) 0 n ver 1 false), (1, .int .i64 a'), (2, .int .i64 b'), (3, .int .i64 lm), (4, .func (.func f) [] caps), (10, .bool wb), (11, .bool wp), (12, .int .i64 l), (13, .int .i64 pv), (97, .bool t)] H1 := by
      intro t ht
      refine hK0 _ _ ?_
      clear hK0 K
      refine L_split rfl (fun ht2 => ?_) (fun ht2 => ?_)
      · obtain ⟨hpos, hge⟩ := ht ht2
        have hmin : ∀ k, a' ≤ k → k < b' → κ (g d pv) ≤ κ (g d k) := fun k k1 k2 => Int.le_trans (Int.not_lt.1 hge) (hP hpos k k1 k2)
        refine L_reg [0, 2, 3, 4, 10, 11, 15] (fun K hK0 => ?_)
        simp [okFn_low]
        refine partEq_ac' f caps D κ r ver a' b' pv d n hdl H1 _ hCk hrow hdD (by omega) hpv.1 hpv.2 (by omega) (fun H2 m p p1 p2 m1 m2 m5 m3 m4 => ?_)
        simp
        apply hK0; clear hK0 K
        have hmin2 := m1.all (by omega) (p := fun x => κ (g d pv) ≤ κ x) hmin
        refine L_reg [0, 1, 2, 3, 4, 10, 11] (fun K hK => ?_)
        simp
        apply hK; clear hK K
        refine L_exit ?_
        refine ⟨b' - p, [.int .i64 (p : Nat), .int .i64 b', .int .i64 lm, .bool wb, .bool wp], by omega, by simp, p, b', lm, wb, wp, m, rfl, by omega, by omega, hbb, hlm, hS.trans (m1.wide haa hbb), fun q1 q2 h1 h2 h3 h4 => ?_, fun hp0 k k1 k2 => ?_, rfl, m3, hK.trans m4⟩
        · by_cases e : a' ≤ q1 ∧ q2 < b'
          · have e1 := m2 q1 e.1 (by omega)
            exact Int.le_trans e1 (hmin2 q2 (by omega) e.2)
          · exact (hO.mix m1 (by omega) haa hbb) q1 q2 h1 h2 h3 e
        · exact Int.le_trans (m2 (p - 1) (by omega) (by omega)) (Int.le_of_lt (m5 k k1 k2))
      · clear ht
        refine L_reg [0, 1, 2, 3, 4, 12, 16, 17] (fun K hK0 => ?_)
        simp [okFn_low]
        refine part_ac' f caps D κ r ver a' b' pv d n hdl H1 _ hCk hrow hdD (by omega) hpv.1 hpv.2 (by omega) (fun H2 m p bb p1 p2 m1 m2 m5 m3 m4 => ?_)
        simp
        apply hK0; clear hK0 K
        have hml : m.length = n := by rw [m1.len, hdl]
        have hS2 := hS.trans (m1.wide haa hbb)
        have hO2 := hO.mix m1 (by omega) haa hbb
        have hP2 := hP.mix m1 (by omega)
        have hK3 := hK.trans m4
        have hr3 : r < H2.length := by have := hK3.1; omega
        clear hS hO hP hrow hK hdl hdD hCk m1 m4
        clear hpv ht2 d H1
        refine L_reg [0, 1, 2, 3, 4, 11, 12, 16] (fun K hK => ?_)
        simp
        apply hK; clear hK K
        obtain ⟨ll, hll⟩ : ∃ x : Nat, (p : Int) - a' = x := ⟨p - a', by omega⟩
        obtain ⟨rl, hrl2⟩ : ∃ x : Nat, (b' : Int) - p = x := ⟨b' - p, by omega⟩
        have hq8 : ((l : Int)).tdiv 8 = ((l / 8 : Nat) : Int) := by rw [Int.tdiv_eq_ediv_of_nonneg (by omega)]; rfl
        obtain ⟨q8, hq80⟩ : ∃ q, q = l / 8 := ⟨_, rfl⟩
        rw [← hq80] at hq8
        refine L_reg [0, 1, 2, 3, 4, 11, 12, 16, 18, 19] (fun K hK => ?_)
        simp [hll, hrl2, wrap_i64 (a := (ll : Int)) (by omega), wrap_i64 (a := (rl : Int)) (by omega)]
        apply hK; clear hK K
        refine L_reg [0, 1, 2, 3, 4, 11, 16, 18, 19, 20] (fun K hK => ?_)
        simp [hq8, wrap_i64 (a := (q8 : Int)) (by omega)]
        apply hK; clear hK K
        refine L_reg [0, 1, 2, 3, 4, 11, 16, 18, 19, 20, 125] (fun K hK => ?_)
        simp
        apply hK; clear hK K
        refine L_dec (ll < rl) (by simp) (fun hlr => ?_) (fun hlr => ?_)
        · refine L_reg [0, 1, 2, 3, 4, 10, 11, 16] (fun K hK => ?_)
          simp
          apply hK; clear hK K
          refine L_reg [0, 2, 3, 4, 10, 11, 16] (fun K hK0 => ?_)
          simp [okFn_low]
          refine ih a' p lm m H2 _ (by omega) (hC.keep hK3) m3 hr3 (hD.perm hS2.1) hml p1 (by omega) hlm (fun h0 k k1 k2 => hP2 h0 k k1 (by omega)) (fun H3 m' s1 s2 s3 s4 => ?_)
          simp
          apply hK0; clear hK0 K
          refine L_reg [0, 1, 2, 3, 4, 10, 11] (fun K hK => ?_)
          simp [wrap_i64 (a := (p : Int) + 1) (by omega)]
          apply hK; clear hK K
          have hm5 := s1.all (by omega) (p := fun x => κ x ≤ κ (g m p)) m2
          have hpm : g m' p = g m p := s1.2 p (by omega)
          refine ⟨b' - (p + 1), [.int .i64 (p + 1 : Nat), .int .i64 b', .int .i64 lm, .bool (decide (q8 ≤ ll)), .bool bb], by omega, by simp, p + 1, b', lm, decide (q8 ≤ ll), bb, m', rfl, by omega, by omega, hbb, hlm, hS2.trans (s1.wide haa (by omega)), fun q1 q2 h1 h2 h3 h4 => ?_, fun hp0 k k1 k2 => ?_, rfl, s3, hK3.trans s4⟩
          · by_cases e : a' ≤ q1 ∧ q2 < b'
            · by_cases e2 : q2 < p
              · exact s2 q1 q2 e.1 h2 e2
              · by_cases e3 : q2 = p
                · subst e3; rw [hpm]; exact hm5 q1 e.1 (by omega)
                · have e4 : κ (g m p) ≤ κ (g m' q2) := by rw [s1.2 q2 (by omega)]; exact m5 q2 (by omega) e.2
                  by_cases e5 : q1 = p
                  · rw [e5, hpm]; exact e4
                  · exact Int.le_trans (hm5 q1 e.1 (by omega)) e4
            · exact (hO2.mix (s1.wide (Nat.le_refl _) (by omega)) (by omega) haa hbb) q1 q2 h1 h2 h3 e
          · rw [show p + 1 - 1 = p by omega, hpm, s1.2 k (by omega)]
            exact m5 k (by omega) k2
        · refine L_reg [0, 1, 2, 3, 4, 10, 11, 16] (fun K hK => ?_)
          simp
          apply hK; clear hK K
          refine L_reg [0, 1, 3, 4, 10, 11, 16] (fun K hK0 => ?_)
          simp [okFn_low, wrap_i64 (a := (p : Int) + 1) (by omega)]
          refine ih (p + 1) b' lm m H2 _ (by omega) (hC.keep hK3) m3 hr3 (hD.perm hS2.1) hml (by omega) (by omega) hlm (fun h0 k k1 k2 => by rw [show p + 1 - 1 = p by omega]; exact m5 k (by omega) k2) (fun H3 m' s1 s2 s3 s4 => ?_)
          simp
          apply hK0; clear hK0 K
          refine L_reg [0, 1, 2, 3, 4, 10, 11] (fun K hK => ?_)
          simp
          apply hK; clear hK K
          have hm5 := s1.all (by omega) (p := fun x => κ (g m p) ≤ κ x) (fun k k1 k2 => m5 k (by omega) k2)
          have hpm : g m' p = g m p := s1.2 p (by omega)
          refine ⟨p - a', [.int .i64 a', .int .i64 (p : Nat), .int .i64 lm, .bool (decide (q8 ≤ rl)), .bool bb], by omega, by simp, a', p, lm, decide (q8 ≤ rl), bb, m', rfl, by omega, by omega, by omega, hlm, hS2.trans (s1.wide (by omega) hbb), fun q1 q2 h1 h2 h3 h4 => ?_, fun hp0 k k1 k2 => ?_, rfl, s3, hK3.trans s4⟩
          · by_cases e : a' ≤ q1 ∧ q2 < b'
            · by_cases e2 : p < q1
              · exact s2 q1 q2 (by omega) h2 e.2
              · by_cases e3 : q1 = p
                · subst e3; rw [hpm]; exact hm5 q2 (by omega) e.2
                · have e4 : κ (g m' q1) ≤ κ (g m p) := by rw [s1.2 q1 (by omega)]; exact m2 q1 e.1 (by omega)
                  by_cases e5 : q2 = p
                  · rw [e5, hpm]; exact e4
                  · exact Int.le_trans e4 (hm5 q2 (by omega) e.2)
            · exact (hO2.mix (s1.wide (by omega) (Nat.le_refl _)) (by omega) haa hbb) q1 q2 h1 h2 h3 e
          · rw [s1.2 k (by omega), s1.2 (a' - 1) (by omega)]
            exact hP2 hp0 k k1 (by omega)
    by_cases hpos : 0 < a'
    · obtain ⟨a0, ha0⟩ : ∃ a0 : Nat, (a' : Int) - 1 = a0 := ⟨a' - 1, by omega⟩
      have ha0n : a' - 1 = a0 := by omega
      have hx := hrow.ld (i := a0) (by omega)
      have hy := hrow.ld (i := pv) (by omega)
      have t1 : a0 < n := by omega
      have t2 : pv < n := by omega
      simp [okFn_low, pickV, hpos, ha0, t1, t2, hx, hy, hCk.1, wrap_i64 (a := (a0 : Int)) (by omega)]
      refine exC_mk (fun Q hQ => hCk.2 H1 (.refl _ _) _ _ (hdD a0 (by omega)) (hdD pv (by omega)) Q hQ) ?_
      simp [pickV]
      refine hK2 _ (fun ht => ⟨hpos, fun h => ?_⟩)
      rw [ha0n] at h
      have := cmpS_neg.2 h
      simp at ht
      omega
    · have ha0 : a' = 0 := by omega
      subst ha0
      simp [pickV]
      exact hK2 false (fun h => by cases h)
  cases wb <;> cases wp <;> simp [pickV] <;> exact hK2 _
end Go.Proofs.Ytjfmiohgkcjdnaa

/- Turns around the circle. -/
namespace Go.Proofs.Ytjfmiohgkcjdnaa
open Go Go.Proofs.Ytjfmiohgkcjdnaa.AX

theorem isNaN_ac (a : Int) (H : AH) (Q : AV → AH → Prop) (h : Q (.bool false) H) : AC Try.prog 95 [.int .i64 a] H Q := by
  refine L_body 6 Try.func95 rfl rfl ?_
  refine L_reg [0] (fun K hK => ?_)
  simp
  apply hK; clear hK K
  refine L_reg [2] (fun K hK => ?_)
  simp
  apply hK; clear hK K
  exact L_ret ⟨.inr rfl, _, rfl, by simpa using h⟩
theorem Compare_ac (a b : Int) (H : AH) (Q : AV → AH → Prop) (h : Q (.int .i64 (cmpS a b)) H) : AC Try.prog 88 [.int .i64 a, .int .i64 b] H Q := by
  unfold cmpS at h
  refine L_body 20 Try.func88 rfl rfl ?_
  refine L_reg [0, 1] (fun K hK => ?_)
  simp
  apply hK; clear hK K
  refine L_reg [0, 1, 5] (fun K hK => ?_)
  simp [okFn_low]
  refine isNaN_ac a _ _ ?_
  simp
  apply hK; clear hK K
  refine L_reg [0, 1, 5, 6] (fun K hK => ?_)
  simp [okFn_low]
  refine isNaN_ac b _ _ ?_
  simp
  apply hK; clear hK K
  refine L_reg [0, 1, 6, 11] (fun K hK => ?_)
  simp
  apply hK; clear hK K
  refine L_false (by simp) ?_
  refine L_reg [0, 1, 13] (fun K hK => ?_)
  simp
  apply hK; clear hK K
  refine L_false (by simp) ?_
  refine L_reg [0, 1, 16] (fun K hK => ?_)
  simp
  apply hK; clear hK K
  refine L_dec (a < b) rfl (fun h1 => ?_) (fun h1 => ?_)
  · rw [if_pos h1] at h
    refine L_reg [4] (fun K hK => ?_)
    simp
    apply hK; clear hK K
    exact L_ret ⟨.inr rfl, _, rfl, h⟩
  · rw [if_neg h1] at h
    refine L_reg [19] (fun K hK => ?_)
    simp
    apply hK; clear hK K
    refine L_dec (b < a) rfl (fun h2 => ?_) (fun h2 => ?_)
    · rw [if_pos h2] at h
      refine L_reg [4] (fun K hK => ?_)
      simp
      apply hK; clear hK K
      exact L_ret ⟨.inr rfl, _, rfl, h⟩
    · rw [if_neg h2] at h
      refine L_reg [4] (fun K hK => ?_)
      simp
      apply hK; clear hK K
      exact L_ret ⟨.inr rfl, _, rfl, h⟩
theorem byMark_ac (m s t p x y : Nat) (hm : 0 < m) (hx : x * s ≤ 1000000) (hy : y * s ≤ 1000000) (H : AH) (Q : AV → AH → Prop) (hb : Bx H p m s t) (h : Q (.int .i64 (cmpS (x * s % m : Nat) (y * s % m : Nat))) H) : AC Try.prog 87 [.int .i64 x, .int .i64 y, .ptr p 0 0] H Q := by
  refine L_body 13 Try.func87 rfl rfl ?_
  refine L_reg [0, 1, 2] (fun K hK => ?_)
  simp
  apply hK; clear hK K
  refine L_regQ mixed [5] (by kernel_rfl) (fun K hK => ?_)
  simp [okFn_low, hb.la]
  refine exQ_mk (fun Q hQ => mark_ac m s x t hm hx H Q hQ) ?_
  simp [okFn_low, hb.la]
  refine exQ_mk (fun Q hQ => mark_ac m s y t hm hy H Q hQ) ?_
  simp [okFn_low]
  refine exQ_mk (fun Q hQ => Compare_ac _ _ H Q hQ) ?_
  simp
  apply hK; clear hK K
  exact L_ret ⟨.inr rfl, _, rfl, h⟩
set_option maxRecDepth 100000 in
theorem SortFunc_ac (f : FuncId) (caps : List AV) (D : Int → Prop) (κ : Int → Int) (r ver : Nat) (c : List Int) (n : Nat) (hn : c.length = n) (H : AH) (Q : AV → AH → Prop) (hC : Cmp f caps D κ r H) (hr : Rw r ver H c) (hrl : r < H.length) (hD : All D c) (hl : n ≤ 127)
    (h : ∀ (H' : AH) (m : List Int), m.Perm c → Srt κ 0 n m → Rw r ver H' m → KeepX r H H' → Q (.tuple []) H') : AC Try.prog 86 [.slice (some r) 0 n ver 1 false, .func (.func f) [] caps] H Q := by
  refine L_body 14 Try.func86 rfl rfl ?_
  refine L_reg [0, 1, 4] (fun K hK => ?_)
  simp
  apply hK; clear hK K
  refine L_reg [] (fun K hK0 => ?_)
  simp [okFn_low, cv3101 n (by omega)]
  refine Len_ac n H _ (by omega) ?_
  simp [okFn_low]
  have h7 : lenN n ≤ 7 := by
    unfold lenN
    repeat' split
    all_goals first | decide | omega
  have := pdq_ac f caps D κ r ver n hl (n + 1) 0 n (lenN n) c H (fun v H' => K [] H') (by omega) hC hr hrl hD hn (by omega) (Nat.le_refl _) (by omega) (fun h0 => by omega) (fun H2 m s1 s2 s3 s4 => ?_)
  · exact this
  apply hK0; clear hK0 K
  exact ⟨.inl rfl, _, rfl, h H2 m s1.1 s2 s3 s4⟩
end Go.Proofs.Ytjfmiohgkcjdnaa

/- Turns begin at different marks; their order around the circle. -/
namespace Go.Proofs.Ytjfmiohgkcjdnaa
open Go Go.Proofs.Ytjfmiohgkcjdnaa.AX

theorem per_dvd {m s k : Nat} (hm : 0 < m) : k * s % m = 0 ↔ per m s ∣ k := by
  obtain ⟨g0, hg0⟩ : ∃ g, g = Nat.gcd m s := ⟨_, rfl⟩
  have hg : 0 < Nat.gcd m s := Nat.gcd_pos_of_pos_left _ hm
  have hco : Nat.Coprime (m / Nat.gcd m s) (s / Nat.gcd m s) := Nat.coprime_div_gcd_div_gcd hg
  have e1 : m = Nat.gcd m s * (m / Nat.gcd m s) := (Nat.mul_div_cancel' (Nat.gcd_dvd_left m s)).symm
  have e2 : s = Nat.gcd m s * (s / Nat.gcd m s) := (Nat.mul_div_cancel' (Nat.gcd_dvd_right m s)).symm
  unfold per
  rw [← hg0] at *
  generalize m / g0 = m' at *
  generalize s / g0 = s' at *
  constructor
  · intro h
    have h1 : m ∣ k * s := Nat.dvd_of_mod_eq_zero h
    rw [e1, e2, Nat.mul_left_comm] at h1
    exact hco.dvd_of_dvd_mul_right (Nat.dvd_of_mul_dvd_mul_left hg h1)
  · rintro ⟨q, rfl⟩
    refine Nat.mod_eq_zero_of_dvd ⟨q * s', ?_⟩
    rw [e1, e2]
    simp only [Nat.mul_assoc, Nat.mul_left_comm, Nat.mul_comm]
theorem mark_inj {m s x y : Nat} (hm : 0 < m) (hx : x < per m s) (hy : y < per m s) (h : x * s % m = y * s % m) : x = y := by
  have key : ∀ {x y : Nat}, x ≤ y → y < per m s → x * s % m = y * s % m → x = y := by
    intro x y hxy hy h
    have h1 : (y * s - x * s) % m = 0 := Nat.sub_mod_eq_zero_of_mod_eq h.symm
    rw [← Nat.sub_mul, per_dvd hm] at h1
    have := Nat.eq_zero_of_dvd_of_lt h1 (by omega)
    omega
  rcases Nat.le_total x y with h1 | h1
  · exact key h1 hy h
  · exact (key h1 hx h.symm).symm
theorem atS_none {m s w : Nat} : ∀ n k, atS m s w n k = none ↔ ∀ x, k ≤ x → x < k + n → x * s % m ≠ w
  | 0, k => by simp [atS]; intro x h1 h2; omega
  | n + 1, k => by
    simp only [atS]
    by_cases h : k * s % m = w
    · rw [if_pos h]
      constructor
      · intro h2; cases h2
      · intro h2; exact absurd h (h2 k (Nat.le_refl _) (by omega))
    · rw [if_neg h, atS_none n (k + 1)]
      constructor
      · intro h2 x h3 h4
        by_cases e : x = k
        · subst e; exact h
        · exact h2 x (by omega) (by omega)
      · intro h2 x h3 h4; exact h2 x (by omega) (by omega)
theorem atS_some {m s w : Nat} : ∀ n k x, atS m s w n k = some x → x * s % m = w ∧ k ≤ x ∧ x < k + n
  | 0, k, x, h => by simp [atS] at h
  | n + 1, k, x, h => by
    simp only [atS] at h
    split at h
    · rename_i h1; cases h; exact ⟨h1, by omega, by omega⟩
    · obtain ⟨h1, h2, h3⟩ := atS_some n (k + 1) x h
      exact ⟨h1, by omega, by omega⟩
theorem atS_mark {m s t x : Nat} (hm : 0 < m) (ht : t ≤ per m s) (hx : x < t) : atS m s (x * s % m) t 0 = some x := by
  cases h : atS m s (x * s % m) t 0 with
  | none => exact absurd rfl ((atS_none t 0).1 h x (by omega) (by omega))
  | some y =>
    obtain ⟨h1, h2, h3⟩ := atS_some t 0 y h
    rw [mark_inj hm (by omega) (by omega) h1]
/-- Turns around the circle. -/
def roundS (m s t : Nat) : List Int := ((List.range m).filterMap fun w => atS m s w t 0).map fun (x : Nat) => (x : Int)
theorem sorted_ext : ∀ {l m : List Nat}, l.Pairwise (· < ·) → m.Pairwise (· < ·) → (∀ z, z ∈ l ↔ z ∈ m) → l = m
  | [], [], _, _, _ => rfl
  | [], y :: m, _, _, h => by have := (h y).2 (by simp); simp at this
  | x :: l, [], _, _, h => by have := (h x).1 (by simp); simp at this
  | x :: l, y :: m, hl, hm, h => by
    obtain ⟨a1, a2⟩ := List.pairwise_cons.1 hl
    obtain ⟨b1, b2⟩ := List.pairwise_cons.1 hm
    have hxy : x = y := by
      rcases List.mem_cons.1 ((h x).1 (by simp)) with e | e
      · exact e
      · rcases List.mem_cons.1 ((h y).2 (by simp)) with e2 | e2
        · exact e2.symm
        · have := b1 x e; have := a1 y e2; omega
    subst hxy
    rw [sorted_ext a2 b2 fun z => ?_]
    have := h z
    simp only [List.mem_cons] at this
    constructor
    · intro hz
      rcases this.1 (.inr hz) with e | e
      · have := a1 z hz; omega
      · exact e
    · intro hz
      rcases this.2 (.inr hz) with e | e
      · have := b1 z hz; omega
      · exact e
def iota (n : Nat) : List Int := (List.range n).map fun (x : Nat) => (x : Int)
theorem mem_iota {n : Nat} {x : Int} : x ∈ iota n ↔ ∃ k : Nat, k < n ∧ x = k := by
  simp only [iota, List.mem_map, List.mem_range]
  constructor
  · rintro ⟨k, h1, rfl⟩; exact ⟨k, h1, rfl⟩
  · rintro ⟨k, h1, rfl⟩; exact ⟨k, h1, rfl⟩
theorem mem_roundS {m s t : Nat} (hm : 0 < m) (ht : t ≤ per m s) {x : Int} : x ∈ roundS m s t ↔ ∃ k : Nat, k < t ∧ x = k := by
  simp only [roundS, List.mem_map, List.mem_filterMap, List.mem_range]
  constructor
  · rintro ⟨k, ⟨w, -, hw⟩, rfl⟩
    exact ⟨k, by have := atS_some t 0 k hw; omega, rfl⟩
  · rintro ⟨k, h1, rfl⟩
    exact ⟨k, ⟨k * s % m, Nat.mod_lt _ hm, atS_mark hm ht h1⟩, rfl⟩
theorem round_marks {m s t : Nat} : (roundS m s t).map (markN m s) = (List.range m).filter fun w => (atS m s w t 0).isSome := by
  unfold roundS
  rw [List.map_map]
  generalize List.range m = R
  induction R with
  | nil => rfl
  | cons w R ih =>
    cases h : atS m s w t 0 with
    | none =>
      rw [List.filterMap_cons_none (f := fun w => atS m s w t 0) h, List.filter_cons_of_neg (by simp [h])]; exact ih
    | some k =>
      obtain ⟨h1, -, -⟩ := atS_some t 0 k h
      rw [List.filterMap_cons_some (f := fun w => atS m s w t 0) h, List.filter_cons_of_pos (by simp [h]), List.map_cons, ih]
      have : (markN m s ∘ fun (x : Nat) => (x : Int)) k = w := by show markN m s (k : Int) = w; rw [markN, Int.toNat_natCast, h1]
      rw [this]
theorem round_sorted (m s t : Nat) : ((roundS m s t).map (markN m s)).Pairwise (· < ·) := by
  rw [round_marks]; exact (List.pairwise_lt_range).sublist List.filter_sublist
/-- What is sorted by its marks is the turns around the circle. -/
theorem round_eq {m s t : Nat} {l : List Int} (hm : 0 < m) (ht : t ≤ per m s) (hp : l.Perm (iota t)) (hs : Srt (fun x => (markN m s x : Int)) 0 t l) : l = roundS m s t := by
  have hl : l.length = t := by rw [hp.length_eq]; simp [iota]
  have hmem : ∀ x, x ∈ l ↔ ∃ k : Nat, k < t ∧ x = k := fun x => by rw [hp.mem_iff, mem_iota]
  have hnd : l.Nodup := by
    refine hp.symm.nodup ?_
    unfold iota
    exact List.Pairwise.map _ (fun a b h => by intro e; exact h (by omega)) List.nodup_range
  have hM : (l.map (markN m s)).Pairwise (· < ·) := by
    rw [List.pairwise_map, List.pairwise_iff_getElem]
    intro i j hi hj hij
    have h1 := hs i j (by omega) hij (by omega)
    rw [g_lt hi, g_lt hj] at h1
    have hne : markN m s l[i] ≠ markN m s l[j] := by
      intro e
      obtain ⟨a, ha, ea⟩ := (hmem l[i]).1 (by simp)
      obtain ⟨b, hb, eb⟩ := (hmem l[j]).1 (by simp)
      rw [ea, eb] at e
      have := mark_inj hm (by omega) (by omega) (show a * s % m = b * s % m by simpa [markN] using e)
      have : l[i] = l[j] := by rw [ea, eb, this]
      have := (List.getElem_inj hnd).1 this
      omega
    have h1 : (markN m s l[i] : Int) ≤ markN m s l[j] := h1
    omega
  have hE : l.map (markN m s) = (roundS m s t).map (markN m s) := by
    refine sorted_ext hM (round_sorted m s t) fun z => ?_
    simp only [List.mem_map]
    constructor
    · rintro ⟨x, hx, rfl⟩; exact ⟨x, (mem_roundS hm ht).2 ((hmem x).1 hx), rfl⟩
    · rintro ⟨x, hx, rfl⟩; exact ⟨x, (hmem x).2 ((mem_roundS hm ht).1 hx), rfl⟩
  have inv : ∀ L : List Int, (∀ x ∈ L, ∃ k : Nat, k < t ∧ x = k) → (L.map (markN m s)).map (fun w => (((atS m s w t 0).getD 0 : Nat) : Int)) = L := by
    intro L hL
    rw [List.map_map]
    conv => rhs; rw [← List.map_id L]
    refine List.map_congr_left fun x hx => ?_
    obtain ⟨k, hk, rfl⟩ := hL x hx
    have : markN m s (k : Int) = k * s % m := by simp [markN]
    simp [this, atS_mark hm ht hk]
  rw [← inv l fun x hx => (hmem x).1 hx, hE, inv _ fun x hx => (mem_roundS hm ht).1 hx]
set_option maxRecDepth 100000 in
theorem roundOk (m s t : Nat) (h1 : 1 ≤ m) (h2 : m ≤ 100) (h3 : s < m) (h5 : t ≤ per m s) : RoundOk m s t (roundS m s t) := by
  intro H Q h
  have hpm := per_le m s
  refine L_body 22 Try.func71 rfl rfl ?_
  refine L_reg [1] (fun K hK => ?_)
  simp [AV.isU, acells, WV]
  apply hK; clear hK K
  obtain ⟨H1, e, hE, hl1, r1, b⟩ := box3 H m s t
  rw [e]
  refine L_reg [1, 3] (fun K hK => ?_)
  simp [b.l2, make_z elz36 (show t ≤ 16777216 by omega)]
  apply hK; clear hK K
  have r2 : (H1 ++ [AObj.row (List.replicate t (.int .i64 0)) 0 0 false])[H.length]? = _ := (Ext.push _ _).row r1
  have hE2 := hE.trans (.push H1 [AObj.row (List.replicate t (.int .i64 0)) 0 0 false])
  have d0 : Rw H1.length 0 (H1 ++ [AObj.row (List.replicate t (.int .i64 0)) 0 0 false]) (List.replicate t 0) := ⟨0, by simp⟩
  have hlt : H1.length < (H1 ++ [AObj.row (List.replicate t (.int .i64 0)) 0 0 false]).length := by simp
  generalize H1 ++ [AObj.row (List.replicate t (.int .i64 0)) 0 0 false] = H2 at r2 hE2 d0 hlt ⊢
  generalize hr : H1.length = r at *
  generalize hp : H.length = p at *
  refine L_reg [1, 3, 9, 10] (fun K hK => ?_)
  simp
  apply hK; clear hK K
  refine L_blockR (fun e' H' => ∃ v, Rw r 0 H' (iota t) ∧ KeepX r H2 H' ∧ e' = [(1, .ptr p 0 0), (3, .slice (some r) 0 t 0 1 false), (9, .int .i64 t), (10, .int .i64 t), (11, v)]) (L_loopV [10] (fun k vs H' => ∃ i : Nat, k = t - i ∧ i ≤ t ∧ vs = [.int .i64 i] ∧ Rw r 0 H' (iota i ++ List.replicate (t - i) 0) ∧ KeepX r H2 H') _ [.int .i64 (0 : Nat)] rfl ⟨0, rfl, by omega, rfl, by simpa [iota] using d0, .refl _ _⟩ ?_) ?_
  · rintro k _ H3 ⟨i, rfl, hi, rfl, hrow, hK⟩
    refine L_reg [1, 3, 9, 10, 11] (fun K hK => ?_)
    simp
    apply hK; clear hK K
    refine L_dec (i < t) (by simp) (fun hlt => ?_) (fun hge => L_exit ?_)
    · refine L_block ?_
      obtain ⟨s', hrow⟩ := hrow
      have hst := store_row (P := Try.prog) (u := 3) (p := i) sc3 (x := .int .i64 (i : Int)) (y := .int .i64 0) rfl hrow (by
        have : t - i = (t - (i + 1)) + 1 := by omega
        rw [this, List.replicate_succ]
        simp [iota])
      have hset : ((iota i ++ List.replicate (t - i) (0 : Int)).map (AV.int .i64)).set i (.int .i64 i) = (iota (i + 1) ++ List.replicate (t - (i + 1)) (0 : Int)).map (.int .i64) := by
        have : t - i = (t - (i + 1)) + 1 := by omega
        rw [this, List.replicate_succ]
        simp [iota, List.range_succ, List.set_append_right]
      rw [hset] at hst
      generalize hcs : (iota (i + 1) ++ List.replicate (t - (i + 1)) (0 : Int)).map (AV.int .i64) = cs at hst
      refine L_reg [1, 3, 4, 9, 10] (fun K hK => ?_)
      simp
      apply hK; clear hK K
      refine L_reg [1, 3, 9, 10] (fun K hK => ?_)
      simp [hlt, hst]
      apply hK; clear hK K
      refine L_reg [1, 3, 9, 10] (fun K hK => ?_)
      simp [wrap_i64 (a := (i : Int) + 1) (by omega)]
      apply hK; clear hK K
      exact ⟨t - (i + 1), [.int .i64 (i + 1 : Nat)], by omega, by simp, i + 1, rfl, by omega, rfl, ⟨_, by rw [hcs]; exact get_set hrow⟩, hK.set _⟩
    · have : i = t := by omega
      subst this
      exact ⟨_, by simpa using hrow, hK, rfl⟩
  rintro _ H3 ⟨v, hrow, hK, rfl⟩
  have hb3 := Bx.row (hK.row (by omega) r2)
  refine L_reg [3] (fun K hK0 => ?_)
  simp [okFn_low]
  refine SortFunc_ac 87 [.ptr p 0 0] (fun x => 0 ≤ x ∧ x < t) (fun x => (markN m s x : Int)) r 0 (iota t) t (by simp [iota]) H3 _ ⟨okFn_low (by omega) (by omega), fun H' hK' x y hx hy Q hQ => ?_⟩ hrow (by have := hK.1; omega) (fun i hi => ?_) (by omega) (fun H4 l q1 q2 q3 q4 => ?_)
  · obtain ⟨x, rfl⟩ : ∃ k : Nat, x = k := ⟨x.toNat, by omega⟩
    obtain ⟨y, rfl⟩ : ∃ k : Nat, y = k := ⟨y.toNat, by omega⟩
    have hx1 := bound (k := x) h2 h3 h5 (by omega)
    have hy1 := bound (k := y) h2 h3 h5 (by omega)
    refine byMark_ac m s t p x y (by omega) (by omega) (by omega) H' Q (Bx.row (hK'.row (by omega) (hK.row (by omega) r2))) ?_
    simpa [markN] using hQ
  · have : i < t := by simpa [iota] using hi
    rw [g_lt hi]
    simp [iota]; omega
  · simp
    apply hK0; clear hK0 K
    have hl := round_eq (by omega) h5 q1 q2
    subst hl
    obtain ⟨s', q3⟩ := q3
    have hlen : (roundS m s t).length = t := by rw [q1.length_eq]; simp [iota]
    refine L_reg [2] (fun K hK => ?_)
    simp
    apply hK; clear hK K
    exact L_ret ⟨.inr rfl, _, rfl, h _ _ (.inr ⟨r, 0, s', by omega, by simp [hlen], q3⟩) ⟨by have := hK.1; have := q4.1; have := hE2.1; omega, fun j hj => by rw [q4.2 j (by omega) (by have := hK.1; omega), hK.2 j (by omega) (by omega), hE2.2 j hj]⟩⟩
end Go.Proofs.Ytjfmiohgkcjdnaa
