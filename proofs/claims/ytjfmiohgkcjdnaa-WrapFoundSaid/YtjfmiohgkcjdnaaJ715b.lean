/- Joined texts: Cd, Ce, Nb, Made, Made2, Near, Pub, Ra, Rb, WNear, WChain. -/
import Derived.Test.YtjfmiohgkcjdnaaJ715a
/- Sorting by a comparison: what is nearly sorted. -/
namespace Go.Proofs.Ytjfmiohgkcjdnaa
open Go Go.Proofs.Ytjfmiohgkcjdnaa.AX

theorem Srt.more {κ : Int → Int} {a i : Nat} {d : List Int} (h : Srt κ a (i + 1) d) (hi : a ≤ i) (h1 : κ (g d i) ≤ κ (g d (i + 1))) : Srt κ a (i + 2) d := by
  intro p q h2 h3 h4
  by_cases e : q = i + 1
  · subst e
    by_cases e2 : p = i
    · subst e2; exact h1
    · exact Int.le_trans (h p i h2 (by omega) (by omega)) h1
  · exact h p q h2 h3 (by omega)
set_option maxRecDepth 100000 in
theorem partial_ac (f : FuncId) (caps : List AV) (D : Int → Prop) (κ : Int → Int) (r ver a b : Nat) (c : List Int) (H : AH) (Q : AV → AH → Prop) (hC : Cmp f caps D κ r H) (hr : Rw r ver H c) (hD : All D c) (hl : c.length ≤ 1000000) (hab : a < b) (hb : b ≤ c.length) (hpre : 0 < a → ∀ k, a ≤ k → k < b → κ (g c (a - 1)) ≤ κ (g c k))
    (h : ∀ (H' : AH) (m : List Int) (t : Bool), Shuf a b c m → (t = true → Srt κ a b m) → Rw r ver H' m → KeepX r H H' → Q (.bool t) H') : AC Try.prog 104 [.slice (some r) 0 c.length ver 1 false, .int .i64 a, .int .i64 b, .func (.func f) [] caps] H Q := by
  refine L_body 141 Try.func104 rfl rfl ?_
  generalize hn : c.length = n at *
  refine L_reg [0, 1, 2, 3] (fun K hK => ?_)
  simp
  apply hK; clear hK K
  refine L_reg [0, 1, 2, 3, 9] (fun K hK => ?_)
  simp [wrap_i64 (a := (a : Int) + 1) (by omega)]
  apply hK; clear hK K
  refine L_reg [0, 1, 2, 3, 9, 10] (fun K hK => ?_)
  simp
  apply hK; clear hK K
  refine L_block (L_loopV [9, 10] (fun k vs H' => ∃ (i jj : Nat) (d : List Int), k = 5 - jj ∧ jj ≤ 5 ∧ a ≤ i ∧ i + 1 ≤ b ∧ Shuf a b c d ∧ Srt κ a (i + 1) d ∧ vs = [.int .i64 ((i : Int) + 1), .int .i64 jj] ∧ Rw r ver H' d ∧ KeepX r H H') _ [.int .i64 ((a : Int) + 1), .int .i64 (0 : Nat)] rfl ⟨a, 0, c, rfl, by omega, by omega, by omega, .refl _ _ _, fun p q h1 h2 h3 => by omega, rfl, hr, .refl r H⟩ ?_)
  rintro k _ H1 ⟨i, jj, d, rfl, hjj, hai, hib, hS, hso, rfl, hrow, hK⟩
  refine L_reg [0, 1, 2, 3, 9, 10, 16] (fun K hK => ?_)
  simp
  apply hK; clear hK K
  refine L_dec ((jj : Int) < 5) (by simp) (fun hlt => ?_) (fun hge => L_exit ?_)
  · refine L_block ?_
    have hjl : jj < 5 := by omega
    have hdl : d.length = n := by rw [hS.len]; exact hn
    have hdD := hD.perm hS.1
    have hCk := hC.keep hK
    refine L_blockR (fun e' H' => ∃ (i2 : Nat) (v16 v : AV), i ≤ i2 ∧ i2 + 1 ≤ b ∧ Srt κ a (i2 + 1) d ∧ (i2 + 1 < b → κ (g d (i2 + 1)) < κ (g d i2)) ∧ e' = [(0, .slice (some r) 0 n ver 1 false), (1, .int .i64 a), (2, .int .i64 b), (3, .func (.func f) [] caps), (9, .int .i64 ((i2 : Int) + 1)), (10, .int .i64 (jj : Nat)), (16, v16), (36, v)] ∧ H1 = H') (L_loopV [9] (fun k vs H' => ∃ i2 : Nat, k = b - i2 ∧ i ≤ i2 ∧ i2 + 1 ≤ b ∧ Srt κ a (i2 + 1) d ∧ vs = [.int .i64 ((i2 : Int) + 1)] ∧ H1 = H') _ [.int .i64 ((i : Int) + 1)] rfl ⟨i, rfl, by omega, by omega, hso, rfl, rfl⟩ ?_) ?_
    · rintro k _ _ ⟨i2, rfl, h1, h2, h3, rfl, rfl⟩
      by_cases hc : i2 + 1 < b
      · have hcq : (i2 : Int) + 1 < b := by omega
        have hx := hrow.ld (i := i2 + 1) (by omega)
        have hy := hrow.ld (i := i2) (by omega)
        have hw : IntKind.i64.wrap (i2 : Int) = (i2 : Int) := wrap_i64 (by omega)
        have t1 : ((i2 : Int) + 1).toNat = i2 + 1 := by omega
        have t2 : (0 : Int) ≤ (i2 : Int) + 1 := by omega
        have t3 : (i2 : Int) + 1 < (n : Int) := by omega
        have t4 : i2 < n := by omega
        refine L_regT mixed [0, 1, 2, 3, 9, 10, 16, 36] (by kernel_rfl) (fun K hK => ?_)
        simp [hw, t1, t2, t3, t4, hx, hy, hCk.1, hcq]
        refine exC_mk (fun Q hQ => hCk.2 H1 (.refl _ _) _ _ (hdD (i2 + 1) (by omega)) (hdD i2 (by omega)) Q hQ) ?_
        simp [pickV]
        apply hK; clear hK K
        by_cases hless : κ (g d (i2 + 1)) < κ (g d i2)
        · have := cmpS_neg.2 hless
          refine L_false (by simpa using this) (L_exit ?_)
          exact ⟨i2, _, _, h1, h2, h3, fun _ => hless, rfl, rfl⟩
        · have : ¬ cmpS (κ (g d (i2 + 1))) (κ (g d i2)) < 0 := fun h => hless (cmpS_neg.1 h)
          refine L_true (by simpa using this) ?_
          refine L_block ?_
          refine L_reg [0, 1, 2, 3, 9, 10, 16] (fun K hK => ?_)
          simp [wrap_i64 (a := (i2 : Int) + 1 + 1) (by omega)]
          apply hK; clear hK K
          exact ⟨b - (i2 + 1), [.int .i64 (((i2 + 1 : Nat) : Int) + 1)], by omega, by simp, i2 + 1, rfl, by omega, by omega, h3.more (by omega) (by omega), rfl, rfl⟩
      · have hcq : ¬ (i2 : Int) + 1 < b := by omega
        refine L_regT mixed [0, 1, 2, 3, 9, 10, 16, 36] (by kernel_rfl) (fun K hK => ?_)
        simp [pickV, hcq]
        apply hK; clear hK K
        refine L_false (by simp) (L_exit ?_)
        exact ⟨i2, _, _, h1, h2, h3, fun h => absurd h hc, rfl, rfl⟩
    rintro _ _ ⟨i2, v16, v36, hi2, hi2b, hso2, hstop, rfl, rfl⟩
    clear hso
    refine L_reg [0, 1, 2, 3, 9, 10, 41] (fun K hK => ?_)
    simp
    apply hK; clear hK K
    refine L_split rfl (fun heq => ?_) (fun hne => ?_)
    · have : i2 + 1 = b := by have := eq_of_beq heq; omega
      refine L_reg [8] (fun K hK => ?_)
      simp
      apply hK; clear hK K
      subst this
      exact L_ret ⟨.inr rfl, _, rfl, h H1 d true hS (fun _ => hso2) hrow hK⟩
    have hib2 : i2 + 1 < b := by
      have : ¬ (i2 : Int) + 1 = b := by simpa using hne
      omega
    refine L_reg [0, 1, 2, 3, 9, 10, 45] (fun K hK => ?_)
    simp [wrap_i64 (a := (b : Int) - a) (by omega)]
    apply hK; clear hK K
    refine L_dec ((b : Int) - a < 50) (by simp) (fun h50 => ?_) (fun h50 => ?_)
    · refine L_reg [8] (fun K hK => ?_)
      simp
      apply hK; clear hK K
      exact L_ret ⟨.inr rfl, _, rfl, h H1 d false hS (fun h => by cases h) hrow hK⟩
    have hx := hrow.ld (i := i2 + 1) (by omega)
    have hy := hrow.ld (i := i2) (by omega)
    have hw : IntKind.i64.wrap (i2 : Int) = (i2 : Int) := wrap_i64 (by omega)
    have t1 : ((i2 : Int) + 1).toNat = i2 + 1 := by omega
    have t2 : (0 : Int) ≤ (i2 : Int) + 1 := by omega
    have t3 : (i2 : Int) + 1 < (n : Int) := by omega
    have t4 : i2 < n := by omega
    obtain ⟨H2, H3, e1, e2, e3, e4⟩ := hrow.swap (i := i2 + 1) (j := i2) (by omega) (by omega)
    refine L_regT mixed [0, 1, 2, 3, 9, 10] (by kernel_rfl) (fun K hK => ?_)
    simp [hw, t1, t2, t3, t4, hx, hy, e1, e2]
    apply hK; clear hK K
    have w0 := sw_i (c := d) (i := i2 + 1) (j := i2) (by omega) (by omega)
    have w1 := sw_j (c := d) (i := i2 + 1) (j := i2) (by omega) (by omega)
    have w2 := fun (k : Nat) (k1 : k ≠ i2 + 1) (k2 : k ≠ i2) => sw_o (c := d) (i := i2 + 1) (j := i2) (by omega) (by omega) k1 k2
    have hS3 : Shuf a b c (sw d (i2 + 1) i2) := hS.trans (.swap (by omega) (by omega) (by omega))
    have hole : ∀ p q, a ≤ p → p < q → q ≤ i2 → q ≠ i2 → κ (g (sw d (i2 + 1) i2) p) ≤ κ (g (sw d (i2 + 1) i2) q) := by
      intro p q h1 h2 h3 h4
      rw [w2 p (by omega) (by omega), w2 q (by omega) (by omega)]
      exact hso2 p q h1 h2 (by omega)
    have hK3 := hK.trans e4
    generalize sw d (i2 + 1) i2 = d3 at e3 hS3 hole
    clear w0 w1 w2 e1 e2 hx hy hw t1 t2 t3 t4 hrow hK hdD hCk hdl hS hstop hso2 e4
    clear hlt hne h50
    clear H2
    have hrow := e3
    have hS := hS3
    have hK := hK3
    clear e3 hS3 hK3
    refine L_reg [0, 1, 2, 3, 9, 10, 65] (fun K hK => ?_)
    simp [wrap_i64 (a := (i2 : Int) + 1 - a) (by omega)]
    apply hK; clear hK K
    refine L_condK [0, 1, 2, 3, 9, 10] (fun e' H' => ∃ d : List Int, Shuf a b c d ∧ Srt κ a (i2 + 1) d ∧ Rw r ver H' d ∧ KeepX r H H' ∧ e' = [(0, .slice (some r) 0 n ver 1 false), (1, .int .i64 a), (2, .int .i64 b), (3, .func (.func f) [] caps), (9, .int .i64 ((i2 : Int) + 1)), (10, .int .i64 (jj : Nat))]) (t := decide ((2 : Int) ≤ (i2 : Int) + 1 - a)) (by simp) (fun ht => ?_) (fun ht => ?_) ?_
    · have h2 : (2 : Int) ≤ (i2 : Int) + 1 - a := of_decide_eq_true ht
      refine L_reg [0, 1, 2, 3, 9, 10, 11] (fun K hK => ?_)
      simp [wrap_i64 (a := (i2 : Int)) (by omega)]
      apply hK; clear hK K
      refine L_block (L_loopV [11] (fun k vs H' => ∃ (j : Nat) (d : List Int), k = j ∧ a ≤ j ∧ j ≤ i2 ∧ Shuf a b c d ∧ (∀ p q, a ≤ p → p < q → q ≤ i2 → q ≠ j → κ (g d p) ≤ κ (g d q)) ∧ vs = [.int .i64 j] ∧ Rw r ver H' d ∧ KeepX r H H') _ [.int .i64 i2] rfl ⟨i2, d3, rfl, by omega, by omega, hS, hole, rfl, hrow, hK⟩ ?_)
      clear hS hole hrow hK
      clear d3 H3 d H1
      rintro k _ H1 ⟨j, d, rfl, haj, hji, hS, ho, rfl, hrow, hK⟩
      have hdl : d.length = n := by rw [hS.len]; exact hn
      have hdD := hD.perm hS.1
      have hCk := hC.keep hK
      cases k with
      | zero =>
        refine L_reg [0, 1, 2, 3, 9, 10, 11, 69] (fun K hK => ?_)
        simp
        apply hK; clear hK K
        refine L_false (by simp) (L_exit ?_)
        exact ⟨d, hS, fun p q h1 h2 h3 => ho p q h1 h2 (by omega) (by omega), hrow, hK, rfl⟩
      | succ j =>
        refine L_reg [0, 1, 2, 3, 9, 10, 11, 69] (fun K hK => ?_)
        simp
        apply hK; clear hK K
        refine L_true (by simp; omega) ?_
        refine L_block ?_
        have hx := hrow.ld (i := j + 1) (by omega)
        have hy := hrow.ld (i := j) (by omega)
        have hw : IntKind.i64.wrap (j : Int) = (j : Int) := wrap_i64 (by omega)
        have t1 : ((j : Int) + 1).toNat = j + 1 := by omega
        have t2 : (0 : Int) ≤ (j : Int) + 1 := by omega
        have t3 : (j : Int) + 1 < (n : Int) := by omega
        have t4 : j < n := by omega
        refine L_regT mixed [0, 1, 2, 3, 9, 10, 11, 84] (by kernel_rfl) (fun K hK => ?_)
        simp [hw, t1, t2, t3, t4, hx, hy, hCk.1]
        refine exC_mk (fun Q hQ => hCk.2 H1 (.refl _ _) _ _ (hdD (j + 1) (by omega)) (hdD j (by omega)) Q hQ) ?_
        simp
        apply hK; clear hK K
        by_cases hless : κ (g d (j + 1)) < κ (g d j)
        · have := cmpS_neg.2 hless
          refine L_false (by simpa using this) ?_
          have haj2 : a ≤ j := by
            by_cases e : a ≤ j
            · exact e
            · have ea : a = j + 1 := by omega
              exfalso
              have h5 := hS.all (by omega) (p := fun x => κ (g c (a - 1)) ≤ κ x) (fun k h6 h7 => hpre (by omega) k h6 h7) (j + 1) (by omega) (by omega)
              rw [← hS.2 (a - 1) (by omega), show a - 1 = j by omega] at h5
              have h5 : κ (g d j) ≤ κ (g d (j + 1)) := h5
              omega
          obtain ⟨H2, H3, e1, e2, e3, e4⟩ := hrow.swap (i := j + 1) (j := j) (by omega) (by omega)
          refine L_regT mixed [0, 1, 2, 3, 9, 10, 11] (by kernel_rfl) (fun K hK => ?_)
          simp [hw, t1, t2, t3, t4, hx, hy, e1, e2]
          apply hK; clear hK K
          refine L_reg [0, 1, 2, 3, 9, 10, 11] (fun K hK => ?_)
          simp [hw]
          apply hK; clear hK K
          refine ⟨j, [.int .i64 (j : Nat)], by omega, by simp, j, _, rfl, by omega, by omega, hS.trans (.swap (by omega) (by omega) (by omega)), fun p q h1 h2 h3 h4 => ?_, rfl, e3, hK.trans e4⟩
          have w0 := sw_i (c := d) (i := j + 1) (j := j) (by omega) (by omega)
          have w1 := sw_j (c := d) (i := j + 1) (j := j) (by omega) (by omega)
          have w2 := fun (k : Nat) (k1 : k ≠ j + 1) (k2 : k ≠ j) => sw_o (c := d) (i := j + 1) (j := j) (by omega) (by omega) k1 k2
          by_cases q1 : q = j + 1
          · subst q1
            by_cases p1 : p = j
            · subst p1; rw [w0, w1]; omega
            · rw [w0, w2 p (by omega) p1]
              exact ho p j h1 (by omega) (by omega) (by omega)
          · rw [w2 q q1 h4]
            by_cases p1 : p = j
            · subst p1; rw [w1]
              exact ho (p + 1) q (by omega) (by omega) h3 (by omega)
            · by_cases p2 : p = j + 1
              · subst p2; rw [w0]
                exact ho j q (by omega) (by omega) h3 (by omega)
              · rw [w2 p p2 p1]
                exact ho p q h1 h2 h3 (by omega)
        · have : ¬ cmpS (κ (g d (j + 1))) (κ (g d j)) < 0 := fun h => hless (cmpS_neg.1 h)
          refine L_true (by simpa using this) (L_exit ?_)
          refine ⟨d, hS, fun p q h1 h2 h3 => ?_, hrow, hK, rfl⟩
          by_cases q1 : q = j + 1
          · subst q1
            by_cases p1 : p = j
            · subst p1; omega
            · have := ho p j h1 (by omega) (by omega) (by omega)
              omega
          · exact ho p q h1 h2 (by omega) q1
    · have h2 : ¬ (2 : Int) ≤ (i2 : Int) + 1 - a := of_decide_eq_false ht
      exact ⟨d3, hS, fun p q h1 h2 h3 => by omega, hrow, hK, by simp⟩
    clear hS hole hrow hK
    clear d3 H3 d H1
    rintro _ H1 ⟨d, hS, hso, hrow, hK, rfl⟩
    refine L_reg [0, 1, 2, 3, 9, 10, 104] (fun K hK => ?_)
    simp [wrap_i64 (a := (b : Int) - ((i2 : Int) + 1)) (by omega)]
    apply hK; clear hK K
    refine L_dec ((2 : Int) ≤ (b : Int) - ((i2 : Int) + 1)) (by simp) (fun h2 => ?_) (fun h2 => ?_)
    · refine L_reg [0, 1, 2, 3, 9, 10, 12] (fun K hK => ?_)
      simp [wrap_i64 (a := (i2 : Int) + 1 + 1) (by omega)]
      apply hK; clear hK K
      refine L_blockR (fun e' H' => ∃ (d : List Int) (v12 v x : AV), Shuf a b c d ∧ Srt κ a (i2 + 1) d ∧ Rw r ver H' d ∧ KeepX r H H' ∧ (e' = [(0, .slice (some r) 0 n ver 1 false), (1, .int .i64 a), (2, .int .i64 b), (3, .func (.func f) [] caps), (9, .int .i64 ((i2 : Int) + 1)), (10, .int .i64 (jj : Nat)), (12, v12), (109, v)] ∨ e' = [(0, .slice (some r) 0 n ver 1 false), (1, .int .i64 a), (2, .int .i64 b), (3, .func (.func f) [] caps), (9, .int .i64 ((i2 : Int) + 1)), (10, .int .i64 (jj : Nat)), (12, v12), (124, v)])) (L_loopV [12] (fun k vs H' => ∃ (j : Nat) (d : List Int), k = b - j ∧ i2 + 1 ≤ j ∧ j + 1 ≤ b ∧ Shuf a b c d ∧ Srt κ a (i2 + 1) d ∧ vs = [.int .i64 ((j : Int) + 1)] ∧ Rw r ver H' d ∧ KeepX r H H') _ [.int .i64 ((i2 : Int) + 1 + 1)] rfl ⟨i2 + 1, d, rfl, by omega, by omega, hS, hso, rfl, hrow, hK⟩ ?_) ?_
      · clear hS hso hrow hK
        clear d H1
        rintro k _ H1 ⟨j, d, rfl, h1, h2, hS, hso, rfl, hrow, hK⟩
        have hdl : d.length = n := by rw [hS.len]; exact hn
        have hdD := hD.perm hS.1
        have hCk := hC.keep hK
        refine L_reg [0, 1, 2, 3, 9, 10, 12, 109] (fun K hK => ?_)
        simp
        apply hK; clear hK K
        refine L_dec ((j : Int) + 1 < b) (by simp) (fun hlt => ?_) (fun hge => L_exit ?_)
        · refine L_block ?_
          have hx := hrow.ld (i := j + 1) (by omega)
          have hy := hrow.ld (i := j) (by omega)
          have hw : IntKind.i64.wrap (j : Int) = (j : Int) := wrap_i64 (by omega)
          have t1 : ((j : Int) + 1).toNat = j + 1 := by omega
          have t2 : (0 : Int) ≤ (j : Int) + 1 := by omega
          have t3 : (j : Int) + 1 < (n : Int) := by omega
          have t4 : j < n := by omega
          refine L_regT mixed [0, 1, 2, 3, 9, 10, 12, 124] (by kernel_rfl) (fun K hK => ?_)
          simp [hw, t1, t2, t3, t4, hx, hy, hCk.1]
          refine exC_mk (fun Q hQ => hCk.2 H1 (.refl _ _) _ _ (hdD (j + 1) (by omega)) (hdD j (by omega)) Q hQ) ?_
          simp
          apply hK; clear hK K
          by_cases hless : κ (g d (j + 1)) < κ (g d j)
          · have := cmpS_neg.2 hless
            refine L_false (by simpa using this) ?_
            obtain ⟨H2, H3, e1, e2, e3, e4⟩ := hrow.swap (i := j + 1) (j := j) (by omega) (by omega)
            refine L_regT mixed [0, 1, 2, 3, 9, 10, 12] (by kernel_rfl) (fun K hK => ?_)
            simp [hw, t1, t2, t3, t4, hx, hy, e1, e2]
            apply hK; clear hK K
            refine L_reg [0, 1, 2, 3, 9, 10, 12] (fun K hK => ?_)
            simp [wrap_i64 (a := (j : Int) + 1 + 1) (by omega)]
            apply hK; clear hK K
            refine ⟨b - (j + 1), [.int .i64 (((j + 1 : Nat) : Int) + 1)], by omega, by simp, j + 1, _, rfl, by omega, by omega, hS.trans (.swap (by omega) (by omega) (by omega)), fun p q h1 h2 h3 => ?_, rfl, e3, hK.trans e4⟩
            have w2 := fun (k : Nat) (k1 : k ≠ j + 1) (k2 : k ≠ j) => sw_o (c := d) (i := j + 1) (j := j) (by omega) (by omega) k1 k2
            rw [w2 p (by omega) (by omega), w2 q (by omega) (by omega)]
            exact hso p q h1 h2 h3
          · have : ¬ cmpS (κ (g d (j + 1))) (κ (g d j)) < 0 := fun h => hless (cmpS_neg.1 h)
            refine L_true (by simpa using this) (L_exit ?_)
            exact ⟨d, _, _, .undef, hS, hso, hrow, hK, .inr rfl⟩
        · exact ⟨d, _, _, .undef, hS, hso, hrow, hK, .inl rfl⟩
      clear hS hso hrow hK
      clear d H1
      rintro _ H1 ⟨d, v12, v, -, hS, hso, hrow, hK, rfl | rfl⟩
      · refine L_reg [0, 1, 2, 3, 9, 10] (fun K hK => ?_)
        simp [wrap_i64 (a := (jj : Int) + 1) (by omega)]
        apply hK; clear hK K
        exact ⟨5 - (jj + 1), [.int .i64 ((i2 : Int) + 1), .int .i64 (jj + 1 : Nat)], by omega, by simp, i2, jj + 1, d, rfl, by omega, by omega, by omega, hS, hso, rfl, hrow, hK⟩
      · refine L_reg [0, 1, 2, 3, 9, 10] (fun K hK => ?_)
        simp [wrap_i64 (a := (jj : Int) + 1) (by omega)]
        apply hK; clear hK K
        exact ⟨5 - (jj + 1), [.int .i64 ((i2 : Int) + 1), .int .i64 (jj + 1 : Nat)], by omega, by simp, i2, jj + 1, d, rfl, by omega, by omega, by omega, hS, hso, rfl, hrow, hK⟩
    · refine L_reg [0, 1, 2, 3, 9, 10] (fun K hK => ?_)
      simp [wrap_i64 (a := (jj : Int) + 1) (by omega)]
      apply hK; clear hK K
      exact ⟨5 - (jj + 1), [.int .i64 ((i2 : Int) + 1), .int .i64 (jj + 1 : Nat)], by omega, by simp, i2, jj + 1, d, rfl, by omega, by omega, by omega, hS, hso, rfl, hrow, hK⟩
  · refine L_reg [8] (fun K hK => ?_)
    simp
    apply hK; clear hK K
    exact L_ret ⟨.inr rfl, _, rfl, h H1 d false hS (fun h => by cases h) hrow hK⟩
end Go.Proofs.Ytjfmiohgkcjdnaa

/- Sorting by a comparison: all of it. -/
namespace Go.Proofs.Ytjfmiohgkcjdnaa
open Go Go.Proofs.Ytjfmiohgkcjdnaa.AX

/-- Sorted, but for what lies between a' and b'. -/
def OrdEx (κ : Int → Int) (a b a' b' : Nat) (d : List Int) : Prop := ∀ p q, a ≤ p → p < q → q < b → ¬ (a' ≤ p ∧ q < b') → κ (g d p) ≤ κ (g d q)
def Pre (κ : Int → Int) (a b : Nat) (d : List Int) : Prop := 0 < a → ∀ k, a ≤ k → k < b → κ (g d (a - 1)) ≤ κ (g d k)
theorem OrdEx.mix {κ : Int → Int} {a b a' b' : Nat} {d m : List Int} (h : OrdEx κ a b a' b' d) (hS : Shuf a' b' d m) (hb : b' ≤ d.length) (haa : a ≤ a') (hbb : b' ≤ b) : OrdEx κ a b a' b' m := by
  intro p q h1 h2 h3 h4
  by_cases hp : a' ≤ p ∧ p < b'
  · have hq : b' ≤ q := by omega
    rw [hS.2 q (by omega)]
    exact hS.all hb (p := fun x => κ x ≤ κ (g d q)) (fun k k1 k2 => h k q (by omega) (by omega) h3 (by omega)) p hp.1 hp.2
  · rw [hS.2 p (by omega)]
    by_cases hq : a' ≤ q ∧ q < b'
    · exact hS.all hb (p := fun x => κ (g d p) ≤ κ x) (fun k k1 k2 => h p k h1 (by omega) (by omega) (by omega)) q hq.1 hq.2
    · rw [hS.2 q (by omega)]
      exact h p q h1 h2 h3 h4
theorem Pre.mix {κ : Int → Int} {a b : Nat} {d m : List Int} (h : Pre κ a b d) (hS : Shuf a b d m) (hb : b ≤ d.length) : Pre κ a b m := by
  intro h0 k k1 k2
  rw [hS.2 (a - 1) (by omega)]
  exact hS.all hb (p := fun x => κ (g d (a - 1)) ≤ κ x) (fun k k1 k2 => h h0 k k1 k2) k k1 k2
theorem OrdEx.srt {κ : Int → Int} {a b a' b' : Nat} {m : List Int} (h : OrdEx κ a b a' b' m) (hs : Srt κ a' b' m) : Srt κ a b m := by
  intro p q h1 h2 h3
  by_cases e : a' ≤ p ∧ q < b'
  · exact hs p q e.1 h2 e.2
  · exact h p q h1 h2 h3 e
theorem pivot_ac' (f : FuncId) (caps : List AV) (D : Int → Prop) (κ : Int → Int) (r ver a b l : Nat) (hbl : b = a + l) (c : List Int) (n : Nat) (hn : c.length = n) (H : AH) (Q : AV → AH → Prop) (hC : Cmp f caps D κ r H) (hr : Rw r ver H c) (hrl : r < H.length) (hD : All D c) (hlen : n ≤ 1000000) (hl : 12 < l) (hb : b ≤ n)
    (h : ∀ (H' : AH) (x : Nat) (hint : Int), a ≤ x ∧ x < b → KeepX r H H' → Rw r ver H' c → Q (.tuple [.int .i64 x, .int .i64 hint]) H') : AC Try.prog 102 [.slice (some r) 0 n ver 1 false, .int .i64 a, .int .i64 b, .func (.func f) [] caps] H Q := by
  subst hbl; subst hn; exact pivot_ac f caps D κ r ver a l c H Q hC hr hrl hD hlen hl hb h
theorem break_ac' (cv : AV) (r ver a b l : Nat) (hbl : b = a + l) (c : List Int) (n : Nat) (hn : c.length = n) (H : AH) (Q : AV → AH → Prop) (hr : Rw r ver H c) (hrl : r < H.length) (hlen : n ≤ 127) (hl : 12 < l) (hb : b ≤ n)
    (h : ∀ (H' : AH) (m : List Int), Shuf a b c m → Rw r ver H' m → KeepX r H H' → Q (.tuple []) H') : AC Try.prog 101 [.slice (some r) 0 n ver 1 false, .int .i64 a, .int .i64 b, cv] H Q := by
  subst hbl; subst hn; exact break_ac cv r ver a l c H Q hr hrl hlen hl hb h
theorem heapSort_ac' (f : FuncId) (caps : List AV) (D : Int → Prop) (κ : Int → Int) (r ver a b l : Nat) (hbl : b = a + l) (c : List Int) (n : Nat) (hn : c.length = n) (H : AH) (Q : AV → AH → Prop) (hC : Cmp f caps D κ r H) (hr : Rw r ver H c) (hD : All D c) (hl : n ≤ 1000000) (hb : b ≤ n) (hl1 : 1 ≤ l)
    (h : ∀ (H' : AH) (m : List Int), Shuf a b c m → Srt κ a b m → Rw r ver H' m → KeepX r H H' → Q (.tuple []) H') : AC Try.prog 100 [.slice (some r) 0 n ver 1 false, .int .i64 a, .int .i64 b, .func (.func f) [] caps] H Q := by
  subst hbl; subst hn; exact heapSort_ac f caps D κ r ver a l c H Q hC hr hD hl hb hl1 h
theorem partEq_ac' (f : FuncId) (caps : List AV) (D : Int → Prop) (κ : Int → Int) (r ver a b pv : Nat) (c : List Int) (n : Nat) (hn : c.length = n) (H : AH) (Q : AV → AH → Prop) (hC : Cmp f caps D κ r H) (hr : Rw r ver H c) (hD : All D c) (hl : n ≤ 1000000) (hpa : a ≤ pv) (hpb : pv < b) (hb : b ≤ n)
    (h : ∀ (H' : AH) (m : List Int) (p : Nat), a < p → p ≤ b → Shuf a b c m → (∀ k, a ≤ k → k < p → κ (g m k) ≤ κ (g c pv)) → (∀ k, p ≤ k → k < b → κ (g c pv) < κ (g m k)) → Rw r ver H' m → KeepX r H H' → Q (.int .i64 p) H') : AC Try.prog 105 [.slice (some r) 0 n ver 1 false, .int .i64 a, .int .i64 b, .int .i64 pv, .func (.func f) [] caps] H Q := by
  subst hn; exact partEq_ac f caps D κ r ver a b pv c H Q hC hr hD hl hpa hpb hb h
theorem part_ac' (f : FuncId) (caps : List AV) (D : Int → Prop) (κ : Int → Int) (r ver a b pv : Nat) (c : List Int) (n : Nat) (hn : c.length = n) (H : AH) (Q : AV → AH → Prop) (hC : Cmp f caps D κ r H) (hr : Rw r ver H c) (hD : All D c) (hl : n ≤ 1000000) (hpa : a ≤ pv) (hpb : pv < b) (hb : b ≤ n)
    (h : ∀ (H' : AH) (m : List Int) (p : Nat) (bb : Bool), a ≤ p → p < b → Shuf a b c m → (∀ k, a ≤ k → k < p → κ (g m k) ≤ κ (g m p)) → (∀ k, p < k → k < b → κ (g m p) ≤ κ (g m k)) → Rw r ver H' m → KeepX r H H' → Q (.tuple [.int .i64 p, .bool bb]) H') : AC Try.prog 106 [.slice (some r) 0 n ver 1 false, .int .i64 a, .int .i64 b, .int .i64 pv, .func (.func f) [] caps] H Q := by
  subst hn; exact part_ac f caps D κ r ver a b pv c H Q hC hr hD hl hpa hpb hb h
set_option maxRecDepth 100000 in
theorem pdq_ac (f : FuncId) (caps : List AV) (D : Int → Prop) (κ : Int → Int) (r ver n : Nat) (hn127 : n ≤ 127) : ∀ (N a b lim : Nat) (c : List Int) (H : AH) (Q : AV → AH → Prop), b - a < N → Cmp f caps D κ r H → Rw r ver H c → r < H.length → All D c → c.length = n → a ≤ b → b ≤ n → lim ≤ 1000 → Pre κ a b c →
    (∀ (H' : AH) (m : List Int), Shuf a b c m → Srt κ a b m → Rw r ver H' m → KeepX r H H' → Q (.tuple []) H') → AC Try.prog 93 [.slice (some r) 0 n ver 1 false, .int .i64 a, .int .i64 b, .int .i64 lim, .func (.func f) [] caps] H Q := by
  intro N
  induction N with
  | zero => intro a b lim c H Q h; omega
  | succ N ih =>
  intro a b lim c H Q hN hC hr hrl hD hn hab hb hlim hpre h
  refine L_body 148 Try.func93 rfl rfl ?_
  refine L_reg [0, 1, 2, 3, 4, 10] (fun K hK => ?_)
  simp
  apply hK; clear hK K
  refine L_reg [0, 1, 2, 3, 4, 10, 11] (fun K hK => ?_)
  simp
  apply hK; clear hK K
  refine L_block (L_loopV [1, 2, 3, 10, 11] (fun k vs H' => ∃ (a' b' lm : Nat) (wb wp : Bool) (d : List Int), k = b' - a' ∧ a ≤ a' ∧ a' ≤ b' ∧ b' ≤ b ∧ lm ≤ 1000 ∧ Shuf a b c d ∧ OrdEx κ a b a' b' d ∧ Pre κ a' b' d ∧ vs = [.int .i64 a', .int .i64 b', .int .i64 lm, .bool wb, .bool wp] ∧ Rw r ver H' d ∧ KeepX r H H') _ [.int .i64 a, .int .i64 b, .int .i64 lim, .bool true, .bool true] rfl ⟨a, b, lim, true, true, c, rfl, by omega, hab, by omega, hlim, .refl _ _ _, fun p q h1 h2 h3 h4 => by omega, hpre, rfl, hr, .refl r H⟩ ?_)
  rintro _ _ H1 ⟨a', b', lm, wb, wp, d, rfl, haa, hab', hbb, hlm, hS, hO, hP, rfl, hrow, hK⟩
  refine L_block ?_
  obtain ⟨l, hbl⟩ : ∃ l, b' = a' + l := ⟨b' - a', by omega⟩
  have hdl : d.length = n := by rw [hS.len]; exact hn
  have hdD := hD.perm hS.1
  have hCk := hC.keep hK
  have hr1 : r < H1.length := by have := hK.1; omega
  refine L_reg [0, 1, 2, 3, 4, 10, 11, 12] (fun K hK => ?_)
  simp [show ((b' : Int) - a') = l by omega, wrap_i64 (a := (l : Int)) (by omega)]
  apply hK; clear hK K
  refine L_reg [0, 1, 2, 3, 4, 10, 11, 12, 25] (fun K hK => ?_)
  simp
  apply hK; clear hK K
  refine L_dec ((l : Int) ≤ 12) (by simp) (fun h12 => ?_) (fun h12 => ?_)
  · refine L_reg [] (fun K hK0 => ?_)
    simp [okFn_low]
    have := insertion_ac f caps D κ r ver a' b' d H1 (fun v H' => K [] H') hCk hrow hdD (by omega) (by omega) (by omega) (fun H2 m m1 m2 m3 m4 => ?_)
    · rw [hdl] at this; exact this
    apply hK0; clear hK0 K
    exact L_ret ⟨.inr rfl, _, rfl, h H2 m (hS.trans (m1.wide haa hbb)) ((hO.mix m1 (by omega) haa hbb).srt m2) m3 (hK.trans m4)⟩
  refine L_reg [0, 1, 2, 3, 4, 10, 11, 12, 32] (fun K hK => ?_)
  simp
  apply hK; clear hK K
  refine L_split rfl (fun h0 => ?_) (fun h0 => ?_)
  · refine L_reg [] (fun K hK0 => ?_)
    simp [okFn_low]
    refine heapSort_ac' f caps D κ r ver a' b' l hbl d n hdl H1 _ hCk hrow hdD (by omega) (by omega) (by omega) (fun H2 m m1 m2 m3 m4 => ?_)
    simp
    apply hK0; clear hK0 K
    exact L_ret ⟨.inr rfl, _, rfl, h H2 m (hS.trans (m1.wide haa hbb)) ((hO.mix m1 (by omega) haa hbb).srt m2) m3 (hK.trans m4)⟩
  have hlm0 : 1 ≤ lm := by
    have : (lm : Int) ≠ 0 := by simpa using h0
    omega
  refine L_reg [0, 1, 2, 3, 4, 10, 11, 12, 39] (fun K hK => ?_)
  simp
  apply hK; clear hK K
  refine L_condK [0, 1, 2, 3, 4, 10, 11, 12] (fun e' H' => ∃ (lm : Nat) (d : List Int), lm ≤ 1000 ∧ Shuf a b c d ∧ OrdEx κ a b a' b' d ∧ Pre κ a' b' d ∧ Rw r ver H' d ∧ KeepX r H H' ∧ e' = [(0, .slice (some r) 0 n ver 1 false), (1, .int .i64 a'), (2, .int .i64 b'), (3, .int .i64 (lm : Nat)), (4, .func (.func f) [] caps), (10, .bool wb), (11, .bool wp), (12, .int .i64 l)]) (t := !wb) rfl (fun ht => ?_) (fun ht => ?_) ?_
  · refine L_reg [0, 1, 2, 3, 4, 10, 11, 12] (fun K hK0 => ?_)
    simp [okFn_low]
    refine break_ac' _ r ver a' b' l hbl d n hdl H1 _ hrow hr1 hn127 (by omega) (by omega) (fun H2 m m1 m3 m4 => ?_)
    simp
    apply hK0; clear hK0 K
    obtain ⟨lm', rfl⟩ : ∃ x, lm = x + 1 := ⟨lm - 1, by omega⟩
    refine L_reg [0, 1, 2, 3, 4, 10, 11, 12] (fun K hK => ?_)
    simp [wrap_i64 (a := (lm' : Int)) (by omega)]
    apply hK; clear hK K
    exact ⟨lm', m, by omega, hS.trans (m1.wide haa hbb), hO.mix m1 (by omega) haa hbb, hP.mix m1 (by omega), m3, hK.trans m4, by simp⟩
  · exact ⟨lm, d, hlm, hS, hO, hP, hrow, hK, by simp⟩
  clear hlm hS hO hP hrow hK hdl hdD hCk hr1 hlm0 h0
  clear d H1 lm
  rintro _ H1 ⟨lm, d, hlm, hS, hO, hP, hrow, hK, rfl⟩
  have hdl : d.length = n := by rw [hS.len]; exact hn
  have hdD := hD.perm hS.1
  have hr1 : r < H1.length := by have := hK.1; omega
  refine L_reg [0, 1, 2, 3, 4, 10, 11, 12, 13, 14] (fun K hK0 => ?_)
  simp [okFn_low]
  refine pivot_ac' f caps D κ r ver a' b' l hbl d n hdl H1 _ (hC.keep hK) hrow hr1 hdD (by omega) (by omega) (by omega) (fun H2 pv hint hpv m4 m3 => ?_)
  simp
  apply hK0; clear hK0 K
  have hK2 := hK.trans m4
  clear hrow hK hr1
  refine L_reg [0, 1, 2, 3, 4, 10, 11, 12, 13, 14, 56] (fun K hK => ?_)
  simp
  apply hK; clear hK K
  refine L_condK [0, 1, 2, 3, 4, 10, 11, 12, 13, 14] (fun e' H' => ∃ (pv : Nat) (hint : Int) (d : List Int), (a' ≤ pv ∧ pv < b') ∧ Shuf a b c d ∧ OrdEx κ a b a' b' d ∧ Pre κ a' b' d ∧ Rw r ver H' d ∧ KeepX r H H' ∧ e' = [(0, .slice (some r) 0 n ver 1 false), (1, .int .i64 a'), (2, .int .i64 b'), (3, .int .i64 lm), (4, .func (.func f) [] caps), (10, .bool wb), (11, .bool wp), (12, .int .i64 l), (13, .int .i64 (pv : Nat)), (14, .int .i64 hint)]) (t := (hint == 2)) rfl (fun ht => ?_) (fun ht => ?_) ?_
  · refine L_reg [0, 1, 2, 3, 4, 10, 11, 12, 13] (fun K hK0 => ?_)
    simp [okFn_low]
    have := reverse_ac (.func (.func f) [] caps) r ver a' b' d H2 (fun v H' => K [(0, .slice (some r) 0 n ver 1 false), (1, .int .i64 a'), (2, .int .i64 b'), (3, .int .i64 lm), (4, .func (.func f) [] caps), (10, .bool wb), (11, .bool wp), (12, .int .i64 l), (13, .int .i64 pv)] H') m3 (by omega) (by omega) (by omega) (fun H3 m q1 q3 q4 => ?_)
    · rw [hdl] at this; exact this
    apply hK0; clear hK0 K
    obtain ⟨pv2, hpv2⟩ : ∃ x : Nat, (b' : Int) - 1 - ((pv : Int) - a') = x := ⟨b' - 1 - (pv - a'), by omega⟩
    refine L_reg [0, 1, 2, 3, 4, 10, 11, 12, 13] (fun K hK => ?_)
    simp [wrap_i64 (a := (b' : Int) - 1) (by omega), wrap_i64 (a := (pv : Int) - a') (by omega), hpv2, wrap_i64 (a := (pv2 : Int)) (by omega)]
    apply hK; clear hK K
    refine L_reg [0, 1, 2, 3, 4, 10, 11, 12, 13, 14] (fun K hK => ?_)
    simp
    apply hK; clear hK K
    exact ⟨pv2, 1, m, by omega, hS.trans (q1.wide haa hbb), hO.mix q1 (by omega) haa hbb, hP.mix q1 (by omega), q3, hK2.trans q4, by simp⟩
  · exact ⟨pv, hint, d, hpv, hS, hO, hP, m3, hK2, by simp⟩
  clear hS hO hP hdl hdD m3 m4 hK2 hpv
  clear d H1 H2 pv hint
  rintro _ H1 ⟨pv, hint, d, hpv, hS, hO, hP, hrow, hK, rfl⟩
  have hdl : d.length = n := by rw [hS.len]; exact hn
  have hdD := hD.perm hS.1
  refine L_reg [0, 1, 2, 3, 4, 10, 11, 12, 13, 75] (fun K hK0 => ?_)
  have hK2 : ∀ t : Bool, K [(0, .slice (some r) 0 n ver 1 false), (1, .int .i64 a'), (2, .int .i64 b'), (3, .int .i64 lm), (4, .func (.func f) [] caps), (10, .bool wb), (11, .bool wp), (12, .int .i64 l), (13, .int .i64 pv), (75, .bool t)] H1 := by
    intro t
    refine hK0 _ _ ?_
    clear hK0 K
    refine L_condK [0, 1, 2, 3, 4, 10, 11, 12, 13] (fun e' H' => ∃ (d : List Int), Shuf a b c d ∧ OrdEx κ a b a' b' d ∧ Pre κ a' b' d ∧ Rw r ver H' d ∧ KeepX r H H' ∧ e' = [(0, .slice (some r) 0 n ver 1 false), (1, .int .i64 a'), (2, .int .i64 b'), (3, .int .i64 lm), (4, .func (.func f) [] caps), (10, .bool wb), (11, .bool wp), (12, .int .i64 l), (13, .int .i64 (pv : Nat))]) (t := t) rfl (fun ht => ?_) (fun ht => ?_) ?_
    · refine L_reg [0, 1, 2, 3, 4, 10, 11, 12, 13, 80] (fun K hK0 => ?_)
      simp [okFn_low]
      have := partial_ac f caps D κ r ver a' b' d H1 (fun v H' => K [(0, .slice (some r) 0 n ver 1 false), (1, .int .i64 a'), (2, .int .i64 b'), (3, .int .i64 lm), (4, .func (.func f) [] caps), (10, .bool wb), (11, .bool wp), (12, .int .i64 l), (13, .int .i64 pv), (80, v)] H') (hC.keep hK) hrow hdD (by omega) (by omega) (by omega) hP (fun H3 m t q1 q2 q3 q4 => ?_)
      · rw [hdl] at this; exact this
      apply hK0; clear hK0 K
      cases t with
      | true =>
        refine L_true rfl ?_
        exact L_ret ⟨.inr rfl, _, rfl, h H3 m (hS.trans (q1.wide haa hbb)) ((hO.mix q1 (by omega) haa hbb).srt (q2 rfl)) q3 (hK.trans q4)⟩
      | false =>
        refine L_false rfl ?_
        exact ⟨m, hS.trans (q1.wide haa hbb), hO.mix q1 (by omega) haa hbb, hP.mix q1 (by omega), q3, hK.trans q4, by simp⟩
    · exact ⟨d, hS, hO, hP, hrow, hK, by simp⟩
    clear hS hO hP hrow hK hdl hdD
    clear d H1
    rintro _ H1 ⟨d, hS, hO, hP, hrow, hK, rfl⟩
    have hdl : d.length = n := by rw [hS.len]; exact hn
    have hdD := hD.perm hS.1
    have hCk := hC.keep hK
    refine L_regT mixed [0, 1, 2, 3, 4, 10, 11, 12, 13, 97] (by kernel_rfl) (fun K hK0 => ?_)
    have hK2 : ∀ t : Bool, (t = true → 0 < a' ∧ ¬ κ (g d (a' - 1)) < κ (g d pv)) → K [(0, .slice (some r) 0 n ver 1 false), (1, .int .i64 a'), (2, .int .i64 b'), (3, .int .i64 lm), (4, .func (.func f) [] caps), (10, .bool wb), (11, .bool wp), (12, .int .i64 l), (13, .int .i64 pv), (97, .bool t)] H1 := by
      intro t ht
      refine hK0 _ _ ?_
      clear hK0 K
      refine L_split rfl (fun ht2 => ?_) (fun ht2 => ?_)
      · obtain ⟨hpos, hge⟩ := ht ht2
        have hmin : ∀ k, a' ≤ k → k < b' → κ (g d pv) ≤ κ (g d k) := fun k k1 k2 => Int.le_trans (Int.not_lt.1 hge) (hP hpos k k1 k2)
        refine L_reg [0, 2, 3, 4, 10, 11, 15] (fun K hK0 => ?_)
        simp [okFn_low]
        refine partEq_ac' f caps D κ r ver a' b' pv d n hdl H1 _ hCk hrow hdD (by omega) hpv.1 hpv.2 (by omega) (fun H2 m p p1 p2 m1 m2 m5 m3 m4 => ?_)
        simp
        apply hK0; clear hK0 K
        have hmin2 := m1.all (by omega) (p := fun x => κ (g d pv) ≤ κ x) hmin
        refine L_reg [0, 1, 2, 3, 4, 10, 11] (fun K hK => ?_)
        simp
        apply hK; clear hK K
        refine L_exit ?_
        refine ⟨b' - p, [.int .i64 (p : Nat), .int .i64 b', .int .i64 lm, .bool wb, .bool wp], by omega, by simp, p, b', lm, wb, wp, m, rfl, by omega, by omega, hbb, hlm, hS.trans (m1.wide haa hbb), fun q1 q2 h1 h2 h3 h4 => ?_, fun hp0 k k1 k2 => ?_, rfl, m3, hK.trans m4⟩
        · by_cases e : a' ≤ q1 ∧ q2 < b'
          · have e1 := m2 q1 e.1 (by omega)
            exact Int.le_trans e1 (hmin2 q2 (by omega) e.2)
          · exact (hO.mix m1 (by omega) haa hbb) q1 q2 h1 h2 h3 e
        · exact Int.le_trans (m2 (p - 1) (by omega) (by omega)) (Int.le_of_lt (m5 k k1 k2))
      · clear ht
        refine L_reg [0, 1, 2, 3, 4, 12, 16, 17] (fun K hK0 => ?_)
        simp [okFn_low]
        refine part_ac' f caps D κ r ver a' b' pv d n hdl H1 _ hCk hrow hdD (by omega) hpv.1 hpv.2 (by omega) (fun H2 m p bb p1 p2 m1 m2 m5 m3 m4 => ?_)
        simp
        apply hK0; clear hK0 K
        have hml : m.length = n := by rw [m1.len, hdl]
        have hS2 := hS.trans (m1.wide haa hbb)
        have hO2 := hO.mix m1 (by omega) haa hbb
        have hP2 := hP.mix m1 (by omega)
        have hK3 := hK.trans m4
        have hr3 : r < H2.length := by have := hK3.1; omega
        clear hS hO hP hrow hK hdl hdD hCk m1 m4
        clear hpv ht2 d H1
        refine L_reg [0, 1, 2, 3, 4, 11, 12, 16] (fun K hK => ?_)
        simp
        apply hK; clear hK K
        obtain ⟨ll, hll⟩ : ∃ x : Nat, (p : Int) - a' = x := ⟨p - a', by omega⟩
        obtain ⟨rl, hrl2⟩ : ∃ x : Nat, (b' : Int) - p = x := ⟨b' - p, by omega⟩
        have hq8 : ((l : Int)).tdiv 8 = ((l / 8 : Nat) : Int) := by rw [Int.tdiv_eq_ediv_of_nonneg (by omega)]; rfl
        obtain ⟨q8, hq80⟩ : ∃ q, q = l / 8 := ⟨_, rfl⟩
        rw [← hq80] at hq8
        refine L_reg [0, 1, 2, 3, 4, 11, 12, 16, 18, 19] (fun K hK => ?_)
        simp [hll, hrl2, wrap_i64 (a := (ll : Int)) (by omega), wrap_i64 (a := (rl : Int)) (by omega)]
        apply hK; clear hK K
        refine L_reg [0, 1, 2, 3, 4, 11, 16, 18, 19, 20] (fun K hK => ?_)
        simp [hq8, wrap_i64 (a := (q8 : Int)) (by omega)]
        apply hK; clear hK K
        refine L_reg [0, 1, 2, 3, 4, 11, 16, 18, 19, 20, 125] (fun K hK => ?_)
        simp
        apply hK; clear hK K
        refine L_dec (ll < rl) (by simp) (fun hlr => ?_) (fun hlr => ?_)
        · refine L_reg [0, 1, 2, 3, 4, 10, 11, 16] (fun K hK => ?_)
          simp
          apply hK; clear hK K
          refine L_reg [0, 2, 3, 4, 10, 11, 16] (fun K hK0 => ?_)
          simp [okFn_low]
          refine ih a' p lm m H2 _ (by omega) (hC.keep hK3) m3 hr3 (hD.perm hS2.1) hml p1 (by omega) hlm (fun h0 k k1 k2 => hP2 h0 k k1 (by omega)) (fun H3 m' s1 s2 s3 s4 => ?_)
          simp
          apply hK0; clear hK0 K
          refine L_reg [0, 1, 2, 3, 4, 10, 11] (fun K hK => ?_)
          simp [wrap_i64 (a := (p : Int) + 1) (by omega)]
          apply hK; clear hK K
          have hm5 := s1.all (by omega) (p := fun x => κ x ≤ κ (g m p)) m2
          have hpm : g m' p = g m p := s1.2 p (by omega)
          refine ⟨b' - (p + 1), [.int .i64 (p + 1 : Nat), .int .i64 b', .int .i64 lm, .bool (decide (q8 ≤ ll)), .bool bb], by omega, by simp, p + 1, b', lm, decide (q8 ≤ ll), bb, m', rfl, by omega, by omega, hbb, hlm, hS2.trans (s1.wide haa (by omega)), fun q1 q2 h1 h2 h3 h4 => ?_, fun hp0 k k1 k2 => ?_, rfl, s3, hK3.trans s4⟩
          · by_cases e : a' ≤ q1 ∧ q2 < b'
            · by_cases e2 : q2 < p
              · exact s2 q1 q2 e.1 h2 e2
              · by_cases e3 : q2 = p
                · subst e3; rw [hpm]; exact hm5 q1 e.1 (by omega)
                · have e4 : κ (g m p) ≤ κ (g m' q2) := by rw [s1.2 q2 (by omega)]; exact m5 q2 (by omega) e.2
                  by_cases e5 : q1 = p
                  · rw [e5, hpm]; exact e4
                  · exact Int.le_trans (hm5 q1 e.1 (by omega)) e4
            · exact (hO2.mix (s1.wide (Nat.le_refl _) (by omega)) (by omega) haa hbb) q1 q2 h1 h2 h3 e
          · rw [show p + 1 - 1 = p by omega, hpm, s1.2 k (by omega)]
            exact m5 k (by omega) k2
        · refine L_reg [0, 1, 2, 3, 4, 10, 11, 16] (fun K hK => ?_)
          simp
          apply hK; clear hK K
          refine L_reg [0, 1, 3, 4, 10, 11, 16] (fun K hK0 => ?_)
          simp [okFn_low, wrap_i64 (a := (p : Int) + 1) (by omega)]
          refine ih (p + 1) b' lm m H2 _ (by omega) (hC.keep hK3) m3 hr3 (hD.perm hS2.1) hml (by omega) (by omega) hlm (fun h0 k k1 k2 => by rw [show p + 1 - 1 = p by omega]; exact m5 k (by omega) k2) (fun H3 m' s1 s2 s3 s4 => ?_)
          simp
          apply hK0; clear hK0 K
          refine L_reg [0, 1, 2, 3, 4, 10, 11] (fun K hK => ?_)
          simp
          apply hK; clear hK K
          have hm5 := s1.all (by omega) (p := fun x => κ (g m p) ≤ κ x) (fun k k1 k2 => m5 k (by omega) k2)
          have hpm : g m' p = g m p := s1.2 p (by omega)
          refine ⟨p - a', [.int .i64 a', .int .i64 (p : Nat), .int .i64 lm, .bool (decide (q8 ≤ rl)), .bool bb], by omega, by simp, a', p, lm, decide (q8 ≤ rl), bb, m', rfl, by omega, by omega, by omega, hlm, hS2.trans (s1.wide (by omega) hbb), fun q1 q2 h1 h2 h3 h4 => ?_, fun hp0 k k1 k2 => ?_, rfl, s3, hK3.trans s4⟩
          · by_cases e : a' ≤ q1 ∧ q2 < b'
            · by_cases e2 : p < q1
              · exact s2 q1 q2 (by omega) h2 e.2
              · by_cases e3 : q1 = p
                · subst e3; rw [hpm]; exact hm5 q2 (by omega) e.2
                · have e4 : κ (g m' q1) ≤ κ (g m p) := by rw [s1.2 q1 (by omega)]; exact m2 q1 e.1 (by omega)
                  by_cases e5 : q2 = p
                  · rw [e5, hpm]; exact e4
                  · exact Int.le_trans e4 (hm5 q2 (by omega) e.2)
            · exact (hO2.mix (s1.wide (by omega) (Nat.le_refl _)) (by omega) haa hbb) q1 q2 h1 h2 h3 e
          · rw [s1.2 k (by omega), s1.2 (a' - 1) (by omega)]
            exact hP2 hp0 k k1 (by omega)
    by_cases hpos : 0 < a'
    · obtain ⟨a0, ha0⟩ : ∃ a0 : Nat, (a' : Int) - 1 = a0 := ⟨a' - 1, by omega⟩
      have ha0n : a' - 1 = a0 := by omega
      have hx := hrow.ld (i := a0) (by omega)
      have hy := hrow.ld (i := pv) (by omega)
      have t1 : a0 < n := by omega
      have t2 : pv < n := by omega
      simp [hpos, ha0, t1, t2, hx, hy, hCk.1, wrap_i64 (a := (a0 : Int)) (by omega)]
      refine exC_mk (fun Q hQ => hCk.2 H1 (.refl _ _) _ _ (hdD a0 (by omega)) (hdD pv (by omega)) Q hQ) ?_
      simp [pickV]
      refine hK2 _ (fun ht => ⟨hpos, fun h => ?_⟩)
      rw [ha0n] at h
      have := cmpS_neg.2 h
      simp at ht
      omega
    · have ha0 : a' = 0 := by omega
      subst ha0
      simp [pickV]
      exact hK2 false (fun h => by cases h)
  cases wb <;> cases wp <;> simp [pickV] <;> exact hK2 _
end Go.Proofs.Ytjfmiohgkcjdnaa

/- Turns around the circle. -/
namespace Go.Proofs.Ytjfmiohgkcjdnaa
open Go Go.Proofs.Ytjfmiohgkcjdnaa.AX

theorem isNaN_ac (a : Int) (H : AH) (Q : AV → AH → Prop) (h : Q (.bool false) H) : AC Try.prog 95 [.int .i64 a] H Q := by
  refine L_body 6 Try.func95 rfl rfl ?_
  refine L_reg [0] (fun K hK => ?_)
  simp
  apply hK; clear hK K
  refine L_reg [2] (fun K hK => ?_)
  simp
  apply hK; clear hK K
  exact L_ret ⟨.inr rfl, _, rfl, by simpa using h⟩
theorem Compare_ac (a b : Int) (H : AH) (Q : AV → AH → Prop) (h : Q (.int .i64 (cmpS a b)) H) : AC Try.prog 88 [.int .i64 a, .int .i64 b] H Q := by
  unfold cmpS at h
  refine L_body 20 Try.func88 rfl rfl ?_
  refine L_reg [0, 1] (fun K hK => ?_)
  simp
  apply hK; clear hK K
  refine L_reg [0, 1, 5] (fun K hK => ?_)
  simp [okFn_low]
  refine isNaN_ac a _ _ ?_
  simp
  apply hK; clear hK K
  refine L_reg [0, 1, 5, 6] (fun K hK => ?_)
  simp [okFn_low]
  refine isNaN_ac b _ _ ?_
  simp
  apply hK; clear hK K
  refine L_reg [0, 1, 6, 11] (fun K hK => ?_)
  simp
  apply hK; clear hK K
  refine L_false (by simp) ?_
  refine L_reg [0, 1, 13] (fun K hK => ?_)
  simp
  apply hK; clear hK K
  refine L_false (by simp) ?_
  refine L_reg [0, 1, 16] (fun K hK => ?_)
  simp
  apply hK; clear hK K
  refine L_dec (a < b) rfl (fun h1 => ?_) (fun h1 => ?_)
  · rw [if_pos h1] at h
    refine L_reg [4] (fun K hK => ?_)
    simp
    apply hK; clear hK K
    exact L_ret ⟨.inr rfl, _, rfl, h⟩
  · rw [if_neg h1] at h
    refine L_reg [19] (fun K hK => ?_)
    simp
    apply hK; clear hK K
    refine L_dec (b < a) rfl (fun h2 => ?_) (fun h2 => ?_)
    · rw [if_pos h2] at h
      refine L_reg [4] (fun K hK => ?_)
      simp
      apply hK; clear hK K
      exact L_ret ⟨.inr rfl, _, rfl, h⟩
    · rw [if_neg h2] at h
      refine L_reg [4] (fun K hK => ?_)
      simp
      apply hK; clear hK K
      exact L_ret ⟨.inr rfl, _, rfl, h⟩
theorem byMark_ac (m s t p x y : Nat) (hm : 0 < m) (hx : x * s ≤ 1000000) (hy : y * s ≤ 1000000) (H : AH) (Q : AV → AH → Prop) (hb : Bx H p m s t) (h : Q (.int .i64 (cmpS (x * s % m : Nat) (y * s % m : Nat))) H) : AC Try.prog 87 [.int .i64 x, .int .i64 y, .ptr p 0 0] H Q := by
  refine L_body 13 Try.func87 rfl rfl ?_
  refine L_reg [0, 1, 2] (fun K hK => ?_)
  simp
  apply hK; clear hK K
  refine L_regQ mixed [5] (by kernel_rfl) (fun K hK => ?_)
  simp [okFn_low, hb.la]
  refine exQ_mk (fun Q hQ => mark_ac m s x t hm hx H Q hQ) ?_
  simp [okFn_low, hb.la]
  refine exQ_mk (fun Q hQ => mark_ac m s y t hm hy H Q hQ) ?_
  simp [okFn_low]
  refine exQ_mk (fun Q hQ => Compare_ac _ _ H Q hQ) ?_
  simp
  apply hK; clear hK K
  exact L_ret ⟨.inr rfl, _, rfl, h⟩
set_option maxRecDepth 100000 in
theorem SortFunc_ac (f : FuncId) (caps : List AV) (D : Int → Prop) (κ : Int → Int) (r ver : Nat) (c : List Int) (n : Nat) (hn : c.length = n) (H : AH) (Q : AV → AH → Prop) (hC : Cmp f caps D κ r H) (hr : Rw r ver H c) (hrl : r < H.length) (hD : All D c) (hl : n ≤ 127)
    (h : ∀ (H' : AH) (m : List Int), m.Perm c → Srt κ 0 n m → Rw r ver H' m → KeepX r H H' → Q (.tuple []) H') : AC Try.prog 86 [.slice (some r) 0 n ver 1 false, .func (.func f) [] caps] H Q := by
  refine L_body 14 Try.func86 rfl rfl ?_
  refine L_reg [0, 1, 4] (fun K hK => ?_)
  simp
  apply hK; clear hK K
  refine L_reg [] (fun K hK0 => ?_)
  simp [okFn_low, cv3101 n (by omega)]
  refine Len_ac n H _ (by omega) ?_
  simp [okFn_low]
  have h7 : lenN n ≤ 7 := by
    unfold lenN
    repeat' split
    all_goals first | decide | omega
  have := pdq_ac f caps D κ r ver n hl (n + 1) 0 n (lenN n) c H (fun v H' => K [] H') (by omega) hC hr hrl hD hn (by omega) (Nat.le_refl _) (by omega) (fun h0 => by omega) (fun H2 m s1 s2 s3 s4 => ?_)
  · exact this
  apply hK0; clear hK0 K
  exact ⟨.inl rfl, _, rfl, h H2 m s1.1 s2 s3 s4⟩
end Go.Proofs.Ytjfmiohgkcjdnaa

/- Turns begin at different marks; their order around the circle. -/
namespace Go.Proofs.Ytjfmiohgkcjdnaa
open Go Go.Proofs.Ytjfmiohgkcjdnaa.AX

theorem per_dvd {m s k : Nat} (hm : 0 < m) : k * s % m = 0 ↔ per m s ∣ k := by
  obtain ⟨g0, hg0⟩ : ∃ g, g = Nat.gcd m s := ⟨_, rfl⟩
  have hg : 0 < Nat.gcd m s := Nat.gcd_pos_of_pos_left _ hm
  have hco : Nat.Coprime (m / Nat.gcd m s) (s / Nat.gcd m s) := Nat.coprime_div_gcd_div_gcd hg
  have e1 : m = Nat.gcd m s * (m / Nat.gcd m s) := (Nat.mul_div_cancel' (Nat.gcd_dvd_left m s)).symm
  have e2 : s = Nat.gcd m s * (s / Nat.gcd m s) := (Nat.mul_div_cancel' (Nat.gcd_dvd_right m s)).symm
  unfold per
  rw [← hg0] at *
  generalize m / g0 = m' at *
  generalize s / g0 = s' at *
  constructor
  · intro h
    have h1 : m ∣ k * s := Nat.dvd_of_mod_eq_zero h
    rw [e1, e2, Nat.mul_left_comm] at h1
    exact hco.dvd_of_dvd_mul_right (Nat.dvd_of_mul_dvd_mul_left hg h1)
  · rintro ⟨q, rfl⟩
    refine Nat.mod_eq_zero_of_dvd ⟨q * s', ?_⟩
    rw [e1, e2]
    simp only [Nat.mul_left_comm, Nat.mul_comm]
theorem mark_inj {m s x y : Nat} (hm : 0 < m) (hx : x < per m s) (hy : y < per m s) (h : x * s % m = y * s % m) : x = y := by
  have key : ∀ {x y : Nat}, x ≤ y → y < per m s → x * s % m = y * s % m → x = y := by
    intro x y hxy hy h
    have h1 : (y * s - x * s) % m = 0 := Nat.sub_mod_eq_zero_of_mod_eq h.symm
    rw [← Nat.sub_mul, per_dvd hm] at h1
    have := Nat.eq_zero_of_dvd_of_lt h1 (by omega)
    omega
  rcases Nat.le_total x y with h1 | h1
  · exact key h1 hy h
  · exact (key h1 hx h.symm).symm
theorem atS_none {m s w : Nat} : ∀ n k, atS m s w n k = none ↔ ∀ x, k ≤ x → x < k + n → x * s % m ≠ w
  | 0, k => by simp [atS]; intro x h1 h2; omega
  | n + 1, k => by
    simp only [atS]
    by_cases h : k * s % m = w
    · rw [if_pos h]
      constructor
      · intro h2; cases h2
      · intro h2; exact absurd h (h2 k (Nat.le_refl _) (by omega))
    · rw [if_neg h, atS_none n (k + 1)]
      constructor
      · intro h2 x h3 h4
        by_cases e : x = k
        · subst e; exact h
        · exact h2 x (by omega) (by omega)
      · intro h2 x h3 h4; exact h2 x (by omega) (by omega)
theorem atS_some {m s w : Nat} : ∀ n k x, atS m s w n k = some x → x * s % m = w ∧ k ≤ x ∧ x < k + n
  | 0, k, x, h => by simp [atS] at h
  | n + 1, k, x, h => by
    simp only [atS] at h
    split at h
    · rename_i h1; cases h; exact ⟨h1, by omega, by omega⟩
    · obtain ⟨h1, h2, h3⟩ := atS_some n (k + 1) x h
      exact ⟨h1, by omega, by omega⟩
theorem atS_mark {m s t x : Nat} (hm : 0 < m) (ht : t ≤ per m s) (hx : x < t) : atS m s (x * s % m) t 0 = some x := by
  cases h : atS m s (x * s % m) t 0 with
  | none => exact absurd rfl ((atS_none t 0).1 h x (by omega) (by omega))
  | some y =>
    obtain ⟨h1, h2, h3⟩ := atS_some t 0 y h
    rw [mark_inj hm (by omega) (by omega) h1]
/-- Turns around the circle. -/
def roundS (m s t : Nat) : List Int := ((List.range m).filterMap fun w => atS m s w t 0).map fun (x : Nat) => (x : Int)
theorem sorted_ext : ∀ {l m : List Nat}, l.Pairwise (· < ·) → m.Pairwise (· < ·) → (∀ z, z ∈ l ↔ z ∈ m) → l = m
  | [], [], _, _, _ => rfl
  | [], y :: m, _, _, h => by have := (h y).2 (by simp); simp at this
  | x :: l, [], _, _, h => by have := (h x).1 (by simp); simp at this
  | x :: l, y :: m, hl, hm, h => by
    obtain ⟨a1, a2⟩ := List.pairwise_cons.1 hl
    obtain ⟨b1, b2⟩ := List.pairwise_cons.1 hm
    have hxy : x = y := by
      rcases List.mem_cons.1 ((h x).1 (by simp)) with e | e
      · exact e
      · rcases List.mem_cons.1 ((h y).2 (by simp)) with e2 | e2
        · exact e2.symm
        · have := b1 x e; have := a1 y e2; omega
    subst hxy
    rw [sorted_ext a2 b2 fun z => ?_]
    have := h z
    simp only [List.mem_cons] at this
    constructor
    · intro hz
      rcases this.1 (.inr hz) with e | e
      · have := a1 z hz; omega
      · exact e
    · intro hz
      rcases this.2 (.inr hz) with e | e
      · have := b1 z hz; omega
      · exact e
def iota (n : Nat) : List Int := (List.range n).map fun (x : Nat) => (x : Int)
theorem mem_iota {n : Nat} {x : Int} : x ∈ iota n ↔ ∃ k : Nat, k < n ∧ x = k := by
  simp only [iota, List.mem_map, List.mem_range]
  constructor
  · rintro ⟨k, h1, rfl⟩; exact ⟨k, h1, rfl⟩
  · rintro ⟨k, h1, rfl⟩; exact ⟨k, h1, rfl⟩
theorem mem_roundS {m s t : Nat} (hm : 0 < m) (ht : t ≤ per m s) {x : Int} : x ∈ roundS m s t ↔ ∃ k : Nat, k < t ∧ x = k := by
  simp only [roundS, List.mem_map, List.mem_filterMap, List.mem_range]
  constructor
  · rintro ⟨k, ⟨w, -, hw⟩, rfl⟩
    exact ⟨k, by have := atS_some t 0 k hw; omega, rfl⟩
  · rintro ⟨k, h1, rfl⟩
    exact ⟨k, ⟨k * s % m, Nat.mod_lt _ hm, atS_mark hm ht h1⟩, rfl⟩
theorem round_marks {m s t : Nat} : (roundS m s t).map (markN m s) = (List.range m).filter fun w => (atS m s w t 0).isSome := by
  unfold roundS
  rw [List.map_map]
  generalize List.range m = R
  induction R with
  | nil => rfl
  | cons w R ih =>
    cases h : atS m s w t 0 with
    | none =>
      rw [List.filterMap_cons_none (f := fun w => atS m s w t 0) h, List.filter_cons_of_neg (by simp [h])]; exact ih
    | some k =>
      obtain ⟨h1, -, -⟩ := atS_some t 0 k h
      rw [List.filterMap_cons_some (f := fun w => atS m s w t 0) h, List.filter_cons_of_pos (by simp [h]), List.map_cons, ih]
      have : (markN m s ∘ fun (x : Nat) => (x : Int)) k = w := by show markN m s (k : Int) = w; rw [markN, Int.toNat_natCast, h1]
      rw [this]
theorem round_sorted (m s t : Nat) : ((roundS m s t).map (markN m s)).Pairwise (· < ·) := by
  rw [round_marks]; exact (List.pairwise_lt_range).sublist List.filter_sublist
/-- What is sorted by its marks is the turns around the circle. -/
theorem round_eq {m s t : Nat} {l : List Int} (hm : 0 < m) (ht : t ≤ per m s) (hp : l.Perm (iota t)) (hs : Srt (fun x => (markN m s x : Int)) 0 t l) : l = roundS m s t := by
  have hl : l.length = t := by rw [hp.length_eq]; simp [iota]
  have hmem : ∀ x, x ∈ l ↔ ∃ k : Nat, k < t ∧ x = k := fun x => by rw [hp.mem_iff, mem_iota]
  have hnd : l.Nodup := by
    refine hp.symm.nodup ?_
    unfold iota
    exact List.Pairwise.map _ (fun a b h => by intro e; exact h (by omega)) List.nodup_range
  have hM : (l.map (markN m s)).Pairwise (· < ·) := by
    rw [List.pairwise_map, List.pairwise_iff_getElem]
    intro i j hi hj hij
    have h1 := hs i j (by omega) hij (by omega)
    rw [g_lt hi, g_lt hj] at h1
    have hne : markN m s l[i] ≠ markN m s l[j] := by
      intro e
      obtain ⟨a, ha, ea⟩ := (hmem l[i]).1 (by simp)
      obtain ⟨b, hb, eb⟩ := (hmem l[j]).1 (by simp)
      rw [ea, eb] at e
      have := mark_inj hm (by omega) (by omega) (show a * s % m = b * s % m by simpa [markN] using e)
      have : l[i] = l[j] := by rw [ea, eb, this]
      have := (List.getElem_inj hnd).1 this
      omega
    have h1 : (markN m s l[i] : Int) ≤ markN m s l[j] := h1
    omega
  have hE : l.map (markN m s) = (roundS m s t).map (markN m s) := by
    refine sorted_ext hM (round_sorted m s t) fun z => ?_
    simp only [List.mem_map]
    constructor
    · rintro ⟨x, hx, rfl⟩; exact ⟨x, (mem_roundS hm ht).2 ((hmem x).1 hx), rfl⟩
    · rintro ⟨x, hx, rfl⟩; exact ⟨x, (hmem x).2 ((mem_roundS hm ht).1 hx), rfl⟩
  have inv : ∀ L : List Int, (∀ x ∈ L, ∃ k : Nat, k < t ∧ x = k) → (L.map (markN m s)).map (fun w => (((atS m s w t 0).getD 0 : Nat) : Int)) = L := by
    intro L hL
    rw [List.map_map]
    conv => rhs; rw [← List.map_id L]
    refine List.map_congr_left fun x hx => ?_
    obtain ⟨k, hk, rfl⟩ := hL x hx
    have : markN m s (k : Int) = k * s % m := by simp [markN]
    simp [this, atS_mark hm ht hk]
  rw [← inv l fun x hx => (hmem x).1 hx, hE, inv _ fun x hx => (mem_roundS hm ht).1 hx]
set_option maxRecDepth 100000 in
theorem roundOk (m s t : Nat) (h1 : 1 ≤ m) (h2 : m ≤ 100) (h3 : s < m) (h5 : t ≤ per m s) : RoundOk m s t (roundS m s t) := by
  intro H Q h
  have hpm := per_le m s
  refine L_body 22 Try.func71 rfl rfl ?_
  refine L_reg [1] (fun K hK => ?_)
  simp [AV.isU, acells, WV]
  apply hK; clear hK K
  obtain ⟨H1, e, hE, hl1, r1, b⟩ := box3 H m s t
  rw [e]
  refine L_reg [1, 3] (fun K hK => ?_)
  simp [b.l2, make_z elz36 (show t ≤ 16777216 by omega)]
  apply hK; clear hK K
  have r2 : (H1 ++ [AObj.row (List.replicate t (.int .i64 0)) 0 0 false])[H.length]? = _ := (Ext.push _ _).row r1
  have hE2 := hE.trans (.push H1 [AObj.row (List.replicate t (.int .i64 0)) 0 0 false])
  have d0 : Rw H1.length 0 (H1 ++ [AObj.row (List.replicate t (.int .i64 0)) 0 0 false]) (List.replicate t 0) := ⟨0, by simp⟩
  have hlt : H1.length < (H1 ++ [AObj.row (List.replicate t (.int .i64 0)) 0 0 false]).length := by simp
  generalize H1 ++ [AObj.row (List.replicate t (.int .i64 0)) 0 0 false] = H2 at r2 hE2 d0 hlt ⊢
  generalize hr : H1.length = r at *
  generalize hp : H.length = p at *
  refine L_reg [1, 3, 9, 10] (fun K hK => ?_)
  simp
  apply hK; clear hK K
  refine L_blockR (fun e' H' => ∃ v, Rw r 0 H' (iota t) ∧ KeepX r H2 H' ∧ e' = [(1, .ptr p 0 0), (3, .slice (some r) 0 t 0 1 false), (9, .int .i64 t), (10, .int .i64 t), (11, v)]) (L_loopV [10] (fun k vs H' => ∃ i : Nat, k = t - i ∧ i ≤ t ∧ vs = [.int .i64 i] ∧ Rw r 0 H' (iota i ++ List.replicate (t - i) 0) ∧ KeepX r H2 H') _ [.int .i64 (0 : Nat)] rfl ⟨0, rfl, by omega, rfl, by simpa [iota] using d0, .refl _ _⟩ ?_) ?_
  · rintro k _ H3 ⟨i, rfl, hi, rfl, hrow, hK⟩
    refine L_reg [1, 3, 9, 10, 11] (fun K hK => ?_)
    simp
    apply hK; clear hK K
    refine L_dec (i < t) (by simp) (fun hlt => ?_) (fun hge => L_exit ?_)
    · refine L_block ?_
      obtain ⟨s', hrow⟩ := hrow
      have hst := store_row (P := Try.prog) (u := 3) (p := i) sc3 (x := .int .i64 (i : Int)) (y := .int .i64 0) rfl hrow (by
        have : t - i = (t - (i + 1)) + 1 := by omega
        rw [this, List.replicate_succ]
        simp [iota])
      have hset : ((iota i ++ List.replicate (t - i) (0 : Int)).map (AV.int .i64)).set i (.int .i64 i) = (iota (i + 1) ++ List.replicate (t - (i + 1)) (0 : Int)).map (.int .i64) := by
        have : t - i = (t - (i + 1)) + 1 := by omega
        rw [this, List.replicate_succ]
        simp [iota, List.range_succ, List.set_append_right]
      rw [hset] at hst
      generalize hcs : (iota (i + 1) ++ List.replicate (t - (i + 1)) (0 : Int)).map (AV.int .i64) = cs at hst
      refine L_reg [1, 3, 4, 9, 10] (fun K hK => ?_)
      simp
      apply hK; clear hK K
      refine L_reg [1, 3, 9, 10] (fun K hK => ?_)
      simp [hlt, hst]
      apply hK; clear hK K
      refine L_reg [1, 3, 9, 10] (fun K hK => ?_)
      simp [wrap_i64 (a := (i : Int) + 1) (by omega)]
      apply hK; clear hK K
      exact ⟨t - (i + 1), [.int .i64 (i + 1 : Nat)], by omega, by simp, i + 1, rfl, by omega, rfl, ⟨_, by rw [hcs]; exact get_set hrow⟩, hK.set _⟩
    · have : i = t := by omega
      subst this
      exact ⟨_, by simpa using hrow, hK, rfl⟩
  rintro _ H3 ⟨v, hrow, hK, rfl⟩
  have hb3 := Bx.row (hK.row (by omega) r2)
  refine L_reg [3] (fun K hK0 => ?_)
  simp [okFn_low]
  refine SortFunc_ac 87 [.ptr p 0 0] (fun x => 0 ≤ x ∧ x < t) (fun x => (markN m s x : Int)) r 0 (iota t) t (by simp [iota]) H3 _ ⟨okFn_low (by omega) (by omega), fun H' hK' x y hx hy Q hQ => ?_⟩ hrow (by have := hK.1; omega) (fun i hi => ?_) (by omega) (fun H4 l q1 q2 q3 q4 => ?_)
  · obtain ⟨x, rfl⟩ : ∃ k : Nat, x = k := ⟨x.toNat, by omega⟩
    obtain ⟨y, rfl⟩ : ∃ k : Nat, y = k := ⟨y.toNat, by omega⟩
    have hx1 := bound (k := x) h2 h3 h5 (by omega)
    have hy1 := bound (k := y) h2 h3 h5 (by omega)
    refine byMark_ac m s t p x y (by omega) (by omega) (by omega) H' Q (Bx.row (hK'.row (by omega) (hK.row (by omega) r2))) ?_
    simpa [markN] using hQ
  · have : i < t := by simpa [iota] using hi
    rw [g_lt hi]
    simp [iota]; omega
  · simp
    apply hK0; clear hK0 K
    have hl := round_eq (by omega) h5 q1 q2
    subst hl
    obtain ⟨s', q3⟩ := q3
    have hlen : (roundS m s t).length = t := by rw [q1.length_eq]; simp [iota]
    refine L_reg [2] (fun K hK => ?_)
    simp
    apply hK; clear hK K
    exact L_ret ⟨.inr rfl, _, rfl, h _ _ (.inr ⟨r, 0, s', by omega, by simp [hlen], q3⟩) ⟨by have := hK.1; have := q4.1; have := hE2.1; omega, fun j hj => by rw [q4.2 j (by omega) (by have := hK.1; omega), hK.2 j (by omega) (by omega), hE2.2 j hj]⟩⟩
end Go.Proofs.Ytjfmiohgkcjdnaa

/- The examples that each law ends with. -/
namespace Go.Proofs.Ytjfmiohgkcjdnaa
open Go Go.Proofs.Ytjfmiohgkcjdnaa.AX

def gapsS (m s t : Nat) : List Int := gapL m ((roundS m s t).map (markN m s))
theorem roundS_len {m s t : Nat} (hm : 0 < m) (ht : t ≤ per m s) : (roundS m s t).length = t := by
  have hmem : ∀ z, z ∈ (roundS m s t).map Int.toNat ↔ z ∈ List.range t := by
    intro z
    simp only [List.mem_map, mem_roundS hm ht, List.mem_range]
    constructor
    · rintro ⟨x, ⟨k, hk, rfl⟩, rfl⟩; simpa using hk
    · intro hz; exact ⟨z, ⟨z, hz, rfl⟩, by simp⟩
  have hnd : ((roundS m s t).map Int.toNat).Nodup := by
    have h1 := round_sorted m s t
    rw [List.pairwise_map] at h1
    have h2 : (roundS m s t).Pairwise fun a b => a.toNat ≠ b.toNat := h1.imp fun h e => by unfold markN at h; rw [e] at h; omega
    exact List.Pairwise.map _ (fun a b h => h) h2
  have hp := (List.perm_ext_iff_of_nodup hnd List.nodup_range).2 hmem
  have := hp.length_eq
  simpa using this
theorem gapsS_len {m s t : Nat} (hm : 0 < m) (ht : t ≤ per m s) : (gapsS m s t).length = t := by
  unfold gapsS; rw [gapL_len]; simp [roundS_len hm ht]
theorem gaps_ac (m s t : Nat) (h1 : 1 ≤ m) (h2 : m ≤ 100) (h3 : s < m) (h5 : t ≤ per m s) (H : AH) (Q : AV → AH → Prop) (h : ∀ v H', OwnF H.length H' v ((gapsS m s t).map (.int .i64)) → Ext H H' → Q v H') : AC Try.prog 73 [WV m s t] H Q :=
  gaps_ac0 m s t (roundS m s t) h1 h2 h3 h5 (roundOk m s t h1 h2 h3 h5) (fun x hx => by
    obtain ⟨k, hk, rfl⟩ := (mem_roundS (by omega) h5).1 hx
    omega) (by rw [roundS_len (by omega) h5]; have := per_le m s; omega) H Q h
theorem gaps_x (m s t : Nat) (h1 : 1 ≤ m) (h2 : m ≤ 100) (h3 : s < m) (h4 : 1 ≤ t) (h5 : t ≤ per m s) (H : AH) (Q : AV → AH → Prop) (h : Q (.slice (some H.length) 0 t 0 1 false) (H ++ [.row ((gapsS m s t).map (.int .i64)) 0 t false])) : AC Try.prog 73 [WV m s t] H Q := by
  have hl := gapsS_len (m := m) (s := s) (by omega) h5
  refine AC.tidy (l := (gapsS m s t).map (.int .i64)) (by intro e; have := congrArg List.length e; simp [hl] at this; omega) (belB_ints _ _) (fun Q h => gaps_ac m s t h1 h2 h3 h5 H Q h) Q ?_
  simpa [hl] using h
def okW (m s t : Nat) : Bool := Nat.ble 1 m && (Nat.ble m 100 && (Nat.blt s m && (Nat.ble 1 t && Nat.ble t (per m s))))
theorem okW_ok {m s t : Nat} (h : okW m s t = true) : 1 ≤ m ∧ m ≤ 100 ∧ s < m ∧ 1 ≤ t ∧ t ≤ per m s := by
  simp only [okW, Bool.and_eq_true, Nat.blt_eq] at h
  exact ⟨Nat.le_of_ble_eq_true h.1, Nat.le_of_ble_eq_true h.2.1, h.2.2.1, Nat.le_of_ble_eq_true h.2.2.2.1, Nat.le_of_ble_eq_true h.2.2.2.2⟩
/-- What is known of the two functions that the kernel does not run. -/
def extW (f : FuncId) (args : List AV) (H : AH) : Option (AV × AH) :=
  bif Nat.beq f 69 then
    match args with
    | [.agg [.int .i64 (.ofNat m), .int .i64 (.ofNat s), .int .i64 (.ofNat t)], .int .i64 (.ofNat k), .int .i64 to] => bif okW m s t && Nat.ble k t then some (.int .i64 (.ofNat (nbS m s t to m (k * s % m) k)), H) else none
    | _ => none
  else bif Nat.beq f 73 then
    match args with
    | [.agg [.int .i64 (.ofNat m), .int .i64 (.ofNat s), .int .i64 (.ofNat t)]] => bif okW m s t then some (.slice (some H.length) 0 t 0 1 false, H ++ [.row ((gapsS m s t).map (.int .i64)) 0 t false]) else none
    | _ => none
  else none
theorem extW_ok (f : FuncId) (args : List AV) (H : AH) (v : AV) (H' : AH) (h : extW f args H = some (v, H')) : AC Try.prog f args H fun u H2 => u = v ∧ H2 = H' := by
  unfold extW at h
  cases h1 : Nat.beq f 69 with
  | true =>
    have := Nat.eq_of_beq_eq_true h1
    subst this
    rw [h1] at h
    simp only [cond_true] at h
    split at h
    · rename_i m s t k to
      cases h2 : okW m s t && Nat.ble k t with
      | false => rw [h2] at h; cases h
      | true =>
        rw [h2] at h
        simp only [cond_true, Option.some.injEq, Prod.mk.injEq] at h
        obtain ⟨rfl, rfl⟩ := h
        simp only [Bool.and_eq_true] at h2
        obtain ⟨a1, a2, a3, a4, a5⟩ := okW_ok h2.1
        exact neigh_ac m s t k to a1 a2 a3 a4 a5 (Nat.le_of_ble_eq_true h2.2) _ _ ⟨rfl, rfl⟩
    · cases h
  | false =>
    rw [h1] at h
    simp only [cond_false] at h
    cases h3 : Nat.beq f 73 with
    | true =>
      have := Nat.eq_of_beq_eq_true h3
      subst this
      rw [h3] at h
      simp only [cond_true] at h
      split at h
      · rename_i m s t
        cases h2 : okW m s t with
        | false => rw [h2] at h; cases h
        | true =>
          rw [h2] at h
          simp only [cond_true, Option.some.injEq, Prod.mk.injEq] at h
          obtain ⟨rfl, rfl⟩ := h
          obtain ⟨a1, a2, a3, a4, a5⟩ := okW_ok h2
          exact gaps_x m s t a1 a2 a3 a4 a5 _ _ ⟨rfl, rfl⟩
      · cases h
    | false => rw [h3] at h; cases h
noncomputable def cxe : Cx Try.prog where
  good := goodT
  keep := keepT
  ext := extW
theorem cxe_ok : cxe.Ok where
  mixed := cx_ok.mixed
  ord f h := cx_ok.ord f h
  ext f args H v H' h := extW_ok f args H v H' h
theorem works_run : callN (runZ cxe 3000) 28 [] [] = some (.bool true, []) := by kernel_rfl
theorem works_ac (H : AH) (Q : AV → AH → Prop) (h : Q (.bool true) H) : AC Try.prog 28 [] H Q := AC_kernZ cxe_ok 3000 works_run .nil (.bool _) h
/-- The same context, in which the examples are known. -/
noncomputable def cxw : Cx Try.prog where
  good := goodT
  keep := keepT
  ext f args H := bif Nat.beq f 28 then (match args with | [] => some (.bool true, H) | _ => none) else extW f args H
theorem cxw_ok : cxw.Ok where
  mixed := cx_ok.mixed
  ord f h := cx_ok.ord f h
  ext f args H v H' h := by
    simp only [cxw] at h
    cases hf : Nat.beq f 28 with
    | false => rw [hf] at h; exact extW_ok f args H v H' h
    | true =>
      have := Nat.eq_of_beq_eq_true hf
      subst this
      rw [hf] at h
      cases args with
      | nil => simp at h; obtain ⟨rfl, rfl⟩ := h; exact works_ac _ _ ⟨rfl, rfl⟩
      | cons a l => simp at h
end Go.Proofs.Ytjfmiohgkcjdnaa

/- Widths of gaps, and numbers of turns for which they are even. -/
namespace Go.Proofs.Ytjfmiohgkcjdnaa
open Go Go.Proofs.Ytjfmiohgkcjdnaa.AX

theorem gapL_bound {m : Nat} : ∀ {ws : List Nat}, ws.Pairwise (· < ·) → (∀ w ∈ ws, w < m) → ∀ x ∈ gapL m ws, 1 ≤ x ∧ x ≤ m
  | [], _, _, x, hx => by simp [gapL] at hx
  | w :: ws, h, hl, x, hx => by
    obtain ⟨h1, h2⟩ := List.pairwise_cons.1 h
    simp only [gapL] at hx
    rcases List.mem_cons.1 hx with rfl | hx
    · have hw := hl w (by simp)
      cases ws with
      | nil => simp only [List.headD_nil]; omega
      | cons y ys =>
        have := h1 y (by simp)
        have := hl y (by simp)
        simp only [List.headD_cons]; omega
    · exact gapL_bound h2 (fun w hw => hl w (by simp [hw])) x hx
theorem gapsS_bound {m s t : Nat} : ∀ x ∈ gapsS m s t, 1 ≤ x ∧ x ≤ m := by
  refine gapL_bound (round_sorted m s t) fun w hw => ?_
  rw [round_marks] at hw
  exact List.mem_range.1 (List.mem_filter.1 hw).1
/-- How often each number up to 100 is there. -/
def cntA (L : List Int) : List Int := (List.range 101).map fun (w : Nat) => ((L.count (w : Int) : Nat) : Int)
theorem cntA_len (L : List Int) : (cntA L).length = 101 := by simp [cntA]
theorem cntA_get (L : List Int) {w : Nat} (h : w < 101) : (cntA L)[w]? = some ((L.count (w : Int) : Nat) : Int) := by simp [cntA, h]
theorem cntA_push (L : List Int) {w : Nat} (_h : w < 101) : (cntA L).set w (((L.count (w : Int) : Nat) : Int) + 1) = cntA (L ++ [(w : Int)]) := by
  apply List.ext_getElem?
  intro i
  rw [List.getElem?_set]
  by_cases hi : i < 101
  · rw [cntA_get _ hi, cntA_get _ hi, List.count_append]
    by_cases e : w = i
    · subst e
      simp [cntA_len, hi]
    · rw [if_neg e]
      have : ((w : Int) == (i : Int)) = false := by simp; omega
      simp [List.count_cons, this]
  · have h1 : (cntA L)[i]? = none := List.getElem?_eq_none (by rw [cntA_len]; omega)
    have h2 : (cntA (L ++ [(w : Int)]))[i]? = none := List.getElem?_eq_none (by rw [cntA_len]; omega)
    rw [h1, h2]
    by_cases e : w = i
    · subst e; omega
    · rw [if_neg e]
def widN (L : List Int) (k : Nat) : List (Nat × Nat) := (List.range k).filterMap fun (w : Nat) => if 0 < L.count (w : Int) then some (w, L.count (w : Int)) else none
def prs (l : List (Nat × Nat)) : List (List AV) := l.map fun p => [.int .i64 p.1, .int .i64 p.2]
theorem widN_succ (L : List Int) (k : Nat) : widN L (k + 1) = if 0 < L.count (k : Int) then widN L k ++ [(k, L.count (k : Int))] else widN L k := by
  unfold widN
  rw [List.range_succ, List.filterMap_append]
  by_cases h : 0 < L.count (k : Int)
  · rw [if_pos h, List.filterMap_cons_some (f := fun (w : Nat) => if 0 < L.count (w : Int) then some (w, L.count (w : Int)) else none) (b := (k, L.count (k : Int))) (if_pos h)]; rfl
  · rw [if_neg h, List.filterMap_cons_none (f := fun (w : Nat) => if 0 < L.count (w : Int) then some (w, L.count (w : Int)) else none) (if_neg h)]; simp
theorem widN_le (L : List Int) : ∀ k, (widN L k).length ≤ k
  | 0 => by simp [widN]
  | k + 1 => by
    have := widN_le L k
    rw [widN_succ]
    split <;> simp <;> omega
@[simp] theorem ixa98 (r off ver : Nat) (k : IntKind) (i : Int) : aIndexAddr Try.prog 98 (.ptr r off ver) (.int k i) = if 0 ≤ i ∧ i < (101 : Nat) then some (.ptr r (off + i.toNat * 1) ver) else none := ixa_ar (by kernel_rfl) ..
theorem zt98 : zeroT Try.prog 98 = some ((cntA []).map (.int .i64)) := by kernel_rfl
theorem ag98 : aggSz Try.prog 98 = some 101 := by kernel_rfl
@[simp] theorem ld98 (H : AH) (r off ver : Nat) : loadV Try.prog 98 H (.ptr r off ver) = (ldn H r ver 101 off).map .agg := load_agg ag98 ..
/-- An array of cells. -/
def arI (P : Program) (t : TypeId) (n : Nat) : Bool := match P.underlying t with | some (.array m e) => m == n && scal P e | _ => false
theorem idx_arr {P : Program} {t : TypeId} {n i : Nat} {cs : List AV} {v : AV} {k : IntKind} (h : arI P t n = true) (hi : i < n) (hc : cs[i]? = some v) : aIndex P t (.agg cs) (.int k i) = some v := by
  unfold arI at h
  split at h
  case h_2 => cases h
  rename_i m e hu
  simp only [Bool.and_eq_true, beq_iff_eq] at h
  obtain ⟨rfl, hs⟩ := h
  unfold scal at hs
  split at hs
  case h_2 => cases hs
  rename_i d ie h1 h2
  simp only [Bool.and_eq_true, Bool.not_eq_true', beq_iff_eq] at hs
  have hlt : (0 : Int) ≤ (i : Int) ∧ (i : Int) < (m : Nat) := ⟨by omega, by omega⟩
  simp only [aIndex, hu]
  rw [if_pos hlt]
  simp [aPart, h1, h2, hs.1, hs.2, hc]
theorem ar98 : arI Try.prog 98 101 = true := by kernel_rfl
theorem elk40 : elK Try.prog 40 2 = true := by kernel_rfl
@[simp] theorem built57 (a b : Int) : aBuilt Try.prog 57 [(0, .int .i64 a), (1, .int .i64 b)] = some [.int .i64 a, .int .i64 b] := by kernel_rfl
@[simp] theorem row40 (H : AH) (a b : Int) : rowV Try.prog 40 1 [(0, .agg [.int .i64 a, .int .i64 b])] H = some (some (.slice (some H.length) 0 1 0 2 false), H ++ [.row [.int .i64 a, .int .i64 b] 0 2 false]) := by kernel_rfl
@[simp] theorem len40 (r : Option Nat) (off len ver sz : Nat) (full : Bool) : aLen Try.prog 40 (.slice r off len ver sz full) = some (.int .i64 len) := len_sl (n := 2) (by kernel_rfl) ..
def widthsS (m s t : Nat) : List (Nat × Nat) := widN (gapsS m s t) 101
set_option maxRecDepth 100000 in
theorem widths_ac (m s t : Nat) (h1 : 1 ≤ m) (h2 : m ≤ 100) (h3 : s < m) (h5 : t ≤ per m s) (H : AH) (Q : AV → AH → Prop) (h : ∀ v H', OwnK 2 H.length H' v (prs (widthsS m s t)) → Ext H H' → Q v H') : AC Try.prog 75 [WV m s t] H Q := by
  refine L_body 37 Try.func75 rfl rfl ?_
  have hpm := per_le m s
  refine L_reg [1] (fun K hK => ?_)
  simp [AV.isU, acells, WV]
  apply hK; clear hK K
  obtain ⟨H1, e, hE, hl1, r1, b⟩ := box3 H m s t
  rw [e]
  obtain ⟨I98, hI98, hz98⟩ := zeroT_some zt98
  refine L_reg [1, 3] (fun K hK => ?_)
  simp [hI98, hz98]
  apply hK; clear hK K
  have hE2 := hE.trans (.push H1 [AObj.row ((cntA []).map (.int .i64)) 0 0 false])
  have b2 := b.ext (.push H1 [AObj.row ((cntA []).map (.int .i64)) 0 0 false])
  have ha : (H1 ++ [AObj.row ((cntA []).map (.int .i64)) 0 0 false])[H1.length]? = some (.row ((cntA []).map (.int .i64)) 0 0 false) := by simp
  have hlt2 : H1.length < (H1 ++ [AObj.row ((cntA []).map (.int .i64)) 0 0 false]).length := by simp
  generalize H1 ++ [AObj.row ((cntA []).map (.int .i64)) 0 0 false] = H2 at hE2 b2 ha hlt2 ⊢
  generalize hq : H1.length = q at *
  have hG := gapsS_bound (m := m) (s := s) (t := t)
  have hGl := gapsS_len (m := m) (s := s) (by omega) h5
  refine L_reg [3, 10, 11, 12] (fun K hK0 => ?_)
  simp [okFn_low, b2.la]
  refine gaps_ac m s t h1 h2 h3 h5 _ _ (fun v H3 hO hE3 => ?_)
  unfold widthsS at h
  generalize gapsS m s t = G at hO hG hGl h
  obtain ⟨r0, ver0, hv⟩ := hO.len
  have hLs : Ls H3 v G := hO.own.ls
  rw [List.length_map] at hv
  subst hv
  simp
  apply hK0; clear hK0 K
  have ha3 := hE3.row ha
  have hE03 := hE2.trans hE3
  have hvr : ∀ H', (∀ j, j < H3.length → j ≠ q → H'[j]? = H3[j]?) → Ls H' (.slice r0 0 G.length ver0 1 false) G := by
    intro H' hH
    rcases hO with ⟨g1, g2⟩ | ⟨r, ver, stale, gr, g1, g2⟩
    · have : G = [] := by simpa using g1
      subst this
      rw [g2]; exact Ls.nil _
    · rw [g1]
      have hlt : r < H3.length := (List.getElem?_eq_some_iff.1 g2).1
      have g3 : H'[r]? = _ := (hH r hlt (by omega)).trans g2
      simpa using Ls.row g3 false
  have hq3 : q < H3.length := by have := hE3.1; omega
  refine L_blockR (fun e' H' => ∃ v13 i : Nat, ∃ v : AV, ∃ s, H'[q]? = some (.row ((cntA G).map (.int .i64)) 0 s false) ∧ Ext H H' ∧ e' = [(3, .ptr q 0 0), (10, .slice r0 0 G.length ver0 1 false), (11, .int .i64 G.length), (12, .int .i64 i), (13, v)]) (L_loopV [12] (fun k vs H' => ∃ (i s : Nat), k = G.length - i ∧ i ≤ G.length ∧ vs = [.int .i64 i] ∧ H'[q]? = some (.row ((cntA (G.take i)).map (.int .i64)) 0 s false) ∧ H3.length = H'.length ∧ ∀ j, j < H3.length → j ≠ q → H'[j]? = H3[j]?) _ [.int .i64 (0 : Nat)] rfl ⟨0, 0, rfl, by omega, rfl, by simpa using ha3, rfl, fun j _ _ => rfl⟩ ?_) ?_
  · rintro k _ H4 ⟨i, s', rfl, hi, rfl, hrow, hl4, hoff⟩
    refine L_reg [3, 10, 11, 12, 13] (fun K hK => ?_)
    simp
    apply hK; clear hK K
    refine L_dec (i < G.length) (by simp) (fun hlt => ?_) (fun hge => L_exit ?_)
    · refine L_block ?_
      obtain ⟨r1', off1, ver1, sz1, full1, hv1, hld⟩ := hvr H4 hoff
      cases hv1
      obtain ⟨r', rfl, -, hld⟩ := hld i hlt
      have hgi := hG G[i] (by simp)
      obtain ⟨w, hw⟩ : ∃ w : Nat, G[i] = w := ⟨G[i].toNat, by omega⟩
      have hw101 : w < 101 := by omega
      rw [hw, Nat.zero_add] at hld
      refine L_reg [3, 5, 10, 11, 12] (fun K hK => ?_)
      simp [hlt, hld]
      apply hK; clear hK K
      have e5 : ld H4 q w 0 = some (.int .i64 (((G.take i).count (w : Int) : Nat) : Int)) := by rw [ld_row hrow, List.getElem?_map, cntA_get _ hw101]; rfl
      have hcl : (G.take i).count (w : Int) ≤ i := Nat.le_trans List.count_le_length (by simp; omega)
      have hst := store_row (P := Try.prog) (u := 3) (p := w) sc3 (x := .int .i64 ((((G.take i).count (w : Int) : Nat) : Int) + 1)) (y := .int .i64 (((G.take i).count (w : Int) : Nat) : Int)) rfl hrow (by rw [List.getElem?_map, cntA_get _ hw101]; rfl)
      have hset : ((cntA (G.take i)).map (AV.int .i64)).set w (.int .i64 ((((G.take i).count (w : Int) : Nat) : Int) + 1)) = (cntA (G.take (i + 1))).map (.int .i64) := by
        rw [← List.map_set, cntA_push _ hw101, ← hw, List.take_append_getElem hlt]
      rw [hset] at hst
      have hg := get_set (o' := AObj.row ((cntA (G.take (i + 1))).map (.int .i64)) 0 (min s' w) false) hrow
      generalize hcc : (G.take i).count (w : Int) = cc at e5 hst hcl
      generalize hcs : (cntA (G.take (i + 1))).map (AV.int .i64) = cs at hst hg
      refine L_reg [3, 10, 11, 12] (fun K hK => ?_)
      simp [show (w : Int) < 101 by omega, e5, wrap_i64 (a := (cc : Int) + 1) (by omega), hst]
      apply hK; clear hK K
      refine L_reg [3, 10, 11, 12] (fun K hK => ?_)
      simp [wrap_i64 (a := (i : Int) + 1) (by omega)]
      apply hK; clear hK K
      exact ⟨G.length - (i + 1), [.int .i64 (i + 1 : Nat)], by omega, by simp, i + 1, _, rfl, by omega, rfl, by rw [hcs]; exact hg, by simpa using hl4, fun j j1 j2 => by rw [set_ne (by omega)]; exact hoff j j1 j2⟩
    · have hi' : i = G.length := by omega
      refine ⟨0, i, _, s', by rw [hi', List.take_length] at hrow; exact hrow, ⟨by have := hE03.1; omega, fun j hj => by rw [hoff j (by have := hE03.1; omega) (by have := hE.1; omega), hE03.2 j hj]⟩, rfl⟩
  rintro _ H5 ⟨-, i, v13, s', hrow, hE5, rfl⟩
  refine L_reg [3, 6] (fun K hK => ?_)
  simp
  apply hK; clear hK K
  have hcA : (cntA G).length = 101 := cntA_len G
  have hla : ldn H5 q 0 101 0 = some ((cntA G).map (.int .i64)) := by
    rw [ldn_row hrow, List.drop_zero]
    have := takeKnown_row (l := (cntA G).map (AV.int .i64)) (fun v hv => by obtain ⟨x, -, rfl⟩ := List.mem_map.1 hv; simp) []
    simpa [hcA] using this
  have hget : ∀ w : Nat, w < 101 → ((cntA G).map (AV.int .i64))[w]? = some (.int .i64 ((G.count (w : Int) : Nat) : Int)) := fun w hw => by rw [List.getElem?_map, cntA_get _ hw]; rfl
  have hcl : ∀ w : Int, G.count w ≤ G.length := fun w => List.count_le_length
  have hGt : G.length ≤ 100 := by omega
  generalize (cntA G).map (AV.int .i64) = cs at hla hget
  refine L_reg [6, 22, 23] (fun K hK => ?_)
  simp [hla]
  apply hK; clear hK K
  refine L_block (L_loopV [6, 23] (fun k vs H' => ∃ (i : Nat) (v : AV), k = 101 - i ∧ i ≤ 101 ∧ vs = [v, .int .i64 i] ∧ OwnK 2 H.length H' v (prs (widN G i)) ∧ Ext H H') _ [.slice none 0 0 0 1 false, .int .i64 (0 : Nat)] rfl ⟨0, _, rfl, by omega, rfl, by simpa [widN, prs] using OwnK.nil 2 H.length H5, hE5⟩ ?_)
  clear hrow hE5 hla hvr hO hLs
  clear H5
  rintro k _ H5 ⟨i, v, rfl, hi, rfl, hO, hE5⟩
  refine L_reg [6, 22, 23, 24] (fun K hK => ?_)
  simp
  apply hK; clear hK K
  refine L_dec ((i : Int) < 101) (by simp) (fun hlt => ?_) (fun hge => L_exit ?_)
  · refine L_block ?_
    have hlt' : i < 101 := by omega
    refine L_reg [6, 7, 8, 22, 23] (fun K hK => ?_)
    simp [idx_arr ar98 hlt' (hget i hlt')]
    apply hK; clear hK K
    refine L_reg [6, 7, 8, 22, 23, 28] (fun K hK => ?_)
    simp
    apply hK; clear hK K
    have hsucc := widN_succ G i
    have hcli := hcl i
    refine L_dec (0 < G.count (i : Int)) (by simp) (fun hpos => ?_) (fun hpos => ?_)
    · rw [if_pos hpos] at hsucc
      have hwl := widN_le G i
      obtain ⟨v', H6, happ, hO6, hE6⟩ := ownK_append hE5 elk40 elk40 (x := [.int .i64 i, .int .i64 (G.count (i : Int) : Nat)]) (m := 2) hO rfl (by simp [AV.one]) (by simp [prs]; omega)
      refine L_reg [6, 22, 23] (fun K hK => ?_)
      simp [happ]
      apply hK; clear hK K
      refine L_reg [6, 22, 23] (fun K hK => ?_)
      simp [wrap_i64 (a := (i : Int) + 1) (by omega)]
      apply hK; clear hK K
      refine ⟨101 - (i + 1), [v', .int .i64 (i + 1 : Nat)], by omega, by simp, i + 1, v', rfl, by omega, rfl, ?_, hE6⟩
      rw [hsucc]
      simpa [prs] using hO6
    · rw [if_neg hpos] at hsucc
      refine L_reg [6, 22, 23] (fun K hK => ?_)
      simp [wrap_i64 (a := (i : Int) + 1) (by omega)]
      apply hK; clear hK K
      exact ⟨101 - (i + 1), [v, .int .i64 (i + 1 : Nat)], by omega, by simp, i + 1, v, rfl, by omega, rfl, by rw [hsucc]; exact hO, hE5⟩
  · have hi' : i = 101 := by omega
    subst hi'
    refine L_reg [2] (fun K hK => ?_)
    simp
    apply hK; clear hK K
    exact L_ret ⟨.inr rfl, _, rfl, h _ _ hO hE5⟩
theorem even_ac0 (m s t : Nat) (h1 : 1 ≤ m) (h2 : m ≤ 100) (h3 : s < m) (h5 : t ≤ per m s) (H : AH) (Q : AV → AH → Prop) (h : ∀ H', Ext H H' → Q (.bool (decide ((widthsS m s t).length ≤ 2))) H') : AC Try.prog 78 [WV m s t] H Q := by
  refine L_body 7 Try.func78 rfl rfl ?_
  refine L_reg [1, 2] (fun K hK => ?_)
  simp [AV.isU, acells, WV]
  apply hK; clear hK K
  obtain ⟨H1, e, hE, hl1, r1, b⟩ := box3 H m s t
  rw [e]
  refine L_reg [2] (fun K hK0 => ?_)
  simp [okFn_low, b.la]
  refine widths_ac m s t h1 h2 h3 h5 _ _ (fun v H3 hO hE3 => ?_)
  obtain ⟨r, ver, sz, rfl⟩ := hO.len
  simp [prs]
  apply hK0; clear hK0 K
  have e2 : decide (((widthsS m s t).length : Int) ≤ 2) = decide ((widthsS m s t).length ≤ 2) := by rw [decide_eq_decide]; omega
  have h6 := h _ (hE.trans hE3)
  rw [← e2] at h6
  exact L_ret ⟨.inr rfl, _, rfl, h6⟩
theorem even_ac (m s t : Nat) (h1 : 1 ≤ m) (h2 : m ≤ 100) (h3 : s < m) (h5 : t ≤ per m s) (H : AH) (Q : AV → AH → Prop) (h : Q (.bool (decide ((widthsS m s t).length ≤ 2))) H) : AC Try.prog 78 [WV m s t] H Q :=
  AC.quiet (belB_bool _ _ _) (fun Q h => even_ac0 m s t h1 h2 h3 h5 H Q h) Q h
end Go.Proofs.Ytjfmiohgkcjdnaa

/- Which turn follows which one around the circle. -/
namespace Go.Proofs.Ytjfmiohgkcjdnaa
open Go Go.Proofs.Ytjfmiohgkcjdnaa.AX

def goS (m : Nat) (to : Int) : Nat → Nat → Nat
  | 0, w => w
  | e + 1, w => goS m to e (stepS m to w)
theorem nbS_is {m s t y : Nat} {to : Int} (hm : 0 < m) (ht : t ≤ per m s) (hy : y < t) : ∀ (d n w met : Nat), d < n → goS m to (d + 1) w = y * s % m → (∀ e, e < d → ∀ z, z < t → goS m to (e + 1) w ≠ z * s % m) → nbS m s t to n w met = y
  | _, 0, _, _, h, _, _ => by omega
  | 0, n + 1, w, met, _, h, _ => by
    have h1 : stepS m to w = y * s % m := h
    simp only [nbS, h1, atS_mark hm ht hy]
  | d + 1, n + 1, w, met, h, h1, h2 => by
    have h3 : atS m s (stepS m to w) t 0 = none := (atS_none t 0).2 fun x _ hx e => h2 0 (by omega) x (by omega) e.symm
    simp only [nbS, h3]
    exact nbS_is hm ht hy d n _ _ (by omega) h1 (fun e he z hz => h2 (e + 1) (by omega) z hz)
theorem go_ahead {m : Nat} (hm : 0 < m) : ∀ e w, w < m → goS m 0 e w = (w + e) % m
  | 0, w, h => by rw [goS, Nat.add_zero, Nat.mod_eq_of_lt h]
  | e + 1, w, h => by
    rw [goS, stepS, if_neg (by decide), go_ahead hm e _ (Nat.mod_lt _ hm), Nat.mod_add_mod]
    congr 1; omega
theorem go_behind {m : Nat} (hm : 0 < m) : ∀ e w, w < m → e ≤ m → goS m 1 e w = (w + m - e) % m
  | 0, w, h, _ => by rw [goS, Nat.sub_zero, Nat.add_mod_right, Nat.mod_eq_of_lt h]
  | e + 1, w, h, he => by
    rw [goS, stepS, if_pos rfl, go_behind hm e _ (Nat.mod_lt _ hm) (by omega)]
    by_cases hw : w = 0
    · subst hw
      rw [Nat.zero_add, Nat.mod_eq_of_lt (show m - 1 < m by omega), show m - 1 + m - e = (m - (e + 1)) + m by omega, Nat.add_mod_right]
    · rw [show w + m - 1 = (w - 1) + m by omega, Nat.add_mod_right, Nat.mod_eq_of_lt (show w - 1 < m by omega)]
      congr 1; omega
/-- The mark of the turn at place i around the circle. -/
def mkR (m s t i : Nat) : Nat := markN m s ((roundS m s t).getD i 0)
theorem mkR_get {m s t i : Nat} (h : i < (roundS m s t).length) : mkR m s t i = markN m s ((roundS m s t)[i]) := by
  unfold mkR; rw [List.getD_eq_getElem?_getD, List.getElem?_eq_getElem h]; rfl
theorem mkR_lt {m s t i j : Nat} (hm : 0 < m) (ht : t ≤ per m s) (hij : i < j) (hj : j < t) : mkR m s t i < mkR m s t j := by
  have hl := roundS_len hm ht
  have h := round_sorted m s t
  rw [List.pairwise_map, List.pairwise_iff_getElem] at h
  rw [mkR_get (by omega), mkR_get (by omega)]
  exact h i j (by omega) (by omega) hij
theorem mkR_le {m s t i j : Nat} (hm : 0 < m) (ht : t ≤ per m s) (hij : i ≤ j) (hj : j < t) : mkR m s t i ≤ mkR m s t j := by
  rcases Nat.lt_or_eq_of_le hij with h | h
  · exact Nat.le_of_lt (mkR_lt hm ht h hj)
  · subst h; exact Nat.le_refl _
theorem mkR_max {m s t i : Nat} (hm : 0 < m) : mkR m s t i < m := Nat.mod_lt _ hm
theorem mkR_mem {m s t z : Nat} (hm : 0 < m) (ht : t ≤ per m s) (hz : z < t) : ∃ j, j < t ∧ (roundS m s t)[j]? = some (z : Int) ∧ mkR m s t j = z * s % m := by
  have hl := roundS_len hm ht
  obtain ⟨j, hj, e⟩ := List.mem_iff_getElem.1 ((mem_roundS hm ht).2 ⟨z, hz, rfl⟩)
  refine ⟨j, by omega, by rw [List.getElem?_eq_getElem hj, e], ?_⟩
  rw [mkR_get hj, e, markN, Int.toNat_natCast]
theorem mkR_some {m s t z j : Nat} (h : (roundS m s t)[j]? = some (z : Int)) : mkR m s t j = z * s % m := by
  obtain ⟨hj, e⟩ := List.getElem?_eq_some_iff.1 h
  rw [mkR_get hj, e, markN, Int.toNat_natCast]
theorem mod_wrap {m x : Nat} (h : m ≤ x) (h2 : x < m + m) : x % m = x - m := by
  rw [Nat.mod_eq_sub_mod h, Nat.mod_eq_of_lt (by omega)]
/-- What is met ahead is next around the circle; the turn itself may be one more. -/
theorem nb_ahead {m s t t2 i k y met : Nat} (hm : 0 < m) (ht : t ≤ t2) (ht2 : t2 ≤ per m s) (hi : i < t2) (hk : (roundS m s t2)[i]? = some (k : Int)) (hy : (roundS m s t2)[(i + 1) % t2]? = some (y : Int)) (hyt : y < t) : nbS m s t 0 m (k * s % m) met = y := by
  have ek := mkR_some hk
  have ey := mkR_some hy
  have hmk : k * s % m < m := Nat.mod_lt _ hm
  have hmem : ∀ z, z < t → ∃ j, j < t2 ∧ mkR m s t2 j = z * s % m := fun z hz => by
    obtain ⟨j, h1, -, h3⟩ := mkR_mem (z := z) hm ht2 (by omega); exact ⟨j, h1, h3⟩
  by_cases h : i + 1 < t2
  · rw [Nat.mod_eq_of_lt h] at ey
    have hlt := mkR_lt hm ht2 (Nat.lt_succ_self i) h
    have hmy := mkR_max (s := s) (t := t2) (i := i + 1) hm
    refine nbS_is hm (by omega) hyt (mkR m s t2 (i + 1) - mkR m s t2 i - 1) m _ _ (by omega) ?_ ?_
    · rw [go_ahead hm _ _ hmk, ← ek, ← ey, Nat.mod_eq_of_lt] <;> simp only [Nat.succ_eq_add_one] at * <;> omega
    · intro e he z hz hc
      obtain ⟨j, hj, ej⟩ := hmem z hz
      rw [go_ahead hm _ _ hmk, ← ek, ← ej, Nat.mod_eq_of_lt (by omega)] at hc
      by_cases hji : j ≤ i
      · have := mkR_le hm ht2 hji hi; omega
      · have := mkR_le hm ht2 (show i + 1 ≤ j by omega) hj; omega
  · have hi' : i + 1 = t2 := by omega
    rw [hi', Nat.mod_self] at ey
    have hle := mkR_le (s := s) hm ht2 (Nat.zero_le i) hi
    refine nbS_is hm (by omega) hyt (m - mkR m s t2 i + mkR m s t2 0 - 1) m _ _ (by omega) ?_ ?_
    · rw [go_ahead hm _ _ hmk, ← ek, ← ey]
      have h0 := mkR_max (s := s) (t := t2) (i := 0) hm
      have h1 := mkR_max (s := s) (t := t2) (i := i) hm
      rw [mod_wrap (by omega) (by omega)]; omega
    · intro e he z hz hc
      obtain ⟨j, hj, ej⟩ := hmem z hz
      rw [go_ahead hm _ _ hmk, ← ek, ← ej] at hc
      have h0 := mkR_le (s := s) hm ht2 (Nat.zero_le j) hj
      have h1 := mkR_le (s := s) hm ht2 (show j ≤ i by omega) hi
      have h2 := mkR_max (s := s) (t := t2) (i := i) hm
      by_cases hw : mkR m s t2 i + (e + 1) < m
      · rw [Nat.mod_eq_of_lt hw] at hc; omega
      · rw [mod_wrap (by omega) (by omega)] at hc; omega
theorem nb_behind {m s t t2 i k y met : Nat} (hm : 0 < m) (ht : t ≤ t2) (ht2 : t2 ≤ per m s) (hi : i < t2) (hk : (roundS m s t2)[i]? = some (k : Int)) (hy : (roundS m s t2)[(i + (t2 - 1)) % t2]? = some (y : Int)) (hyt : y < t) : nbS m s t 1 m (k * s % m) met = y := by
  have ek := mkR_some hk
  have ey := mkR_some hy
  have hmk : k * s % m < m := Nat.mod_lt _ hm
  have hmem : ∀ z, z < t → ∃ j, j < t2 ∧ mkR m s t2 j = z * s % m := fun z hz => by
    obtain ⟨j, h1, -, h3⟩ := mkR_mem (z := z) hm ht2 (by omega); exact ⟨j, h1, h3⟩
  by_cases h : 0 < i
  · rw [show i + (t2 - 1) = (i - 1) + t2 by omega, Nat.add_mod_right, Nat.mod_eq_of_lt (show i - 1 < t2 by omega)] at ey
    have hlt := mkR_lt (s := s) hm ht2 (show i - 1 < i by omega) hi
    have hmy := mkR_max (s := s) (t := t2) (i := i) hm
    refine nbS_is hm (by omega) hyt (mkR m s t2 i - mkR m s t2 (i - 1) - 1) m _ _ (by omega) ?_ ?_
    · rw [go_behind hm _ _ hmk (by omega), ← ek, ← ey, mod_wrap (by omega) (by omega)]; omega
    · intro e he z hz hc
      obtain ⟨j, hj, ej⟩ := hmem z hz
      rw [go_behind hm _ _ hmk (by omega), ← ek, ← ej, mod_wrap (by omega) (by omega)] at hc
      by_cases hji : i ≤ j
      · have := mkR_le (s := s) hm ht2 hji hj; omega
      · have := mkR_le (s := s) hm ht2 (show j ≤ i - 1 by omega) (by omega); omega
  · have hi' : i = 0 := by omega
    subst hi'
    rw [Nat.zero_add, Nat.mod_eq_of_lt (by omega)] at ey
    have hle := mkR_le (s := s) hm ht2 (Nat.zero_le (t2 - 1)) (by omega)
    have h1 := mkR_max (s := s) (t := t2) (i := t2 - 1) hm
    refine nbS_is hm (by omega) hyt (mkR m s t2 0 + m - mkR m s t2 (t2 - 1) - 1) m _ _ (by omega) ?_ ?_
    · rw [go_behind hm _ _ hmk (by omega), ← ek, ← ey, Nat.mod_eq_of_lt (by omega)]; omega
    · intro e he z hz hc
      obtain ⟨j, hj, ej⟩ := hmem z hz
      rw [go_behind hm _ _ hmk (by omega), ← ek, ← ej] at hc
      have h0 := mkR_le (s := s) hm ht2 (Nat.zero_le j) hj
      have h2 := mkR_le (s := s) hm ht2 (show j ≤ t2 - 1 by omega) (by omega)
      by_cases hw : mkR m s t2 0 + m - (e + 1) < m
      · rw [Nat.mod_eq_of_lt hw] at hc; omega
      · rw [mod_wrap (by omega) (by omega)] at hc; omega
end Go.Proofs.Ytjfmiohgkcjdnaa

/- Wrappers by numbers; how many marks are met; marks; lists that are equal. -/
namespace Go.Proofs.Ytjfmiohgkcjdnaa
open Go Go.Proofs.Ytjfmiohgkcjdnaa.AX

theorem lookup_none {x : Int} : ∀ {l : List (Int × AV)}, (∀ p ∈ l, x ≠ p.1) → l.lookup x = none
  | [], _ => rfl
  | p :: l, h => by
    have h1 : (x == p.1) = false := by simpa using h p (by simp)
    rw [List.lookup_cons, h1]; exact lookup_none fun q hq => h q (by simp [hq])
theorem putL_new {x : Int} {v : AV} : ∀ {l : List (Int × AV)}, (∀ p ∈ l, x ≠ p.1) → putL x v l = l ++ [(x, v)]
  | [], _ => rfl
  | p :: l, h => by
    have h1 : (x == p.1) = false := by simpa using h p (by simp)
    simp only [putL, h1, Bool.false_eq_true, if_false, List.cons_append]
    rw [putL_new fun q hq => h q (by simp [hq])]
def metL (m s k : Nat) : List (Int × AV) := (List.range k).map fun (j : Nat) => (((j * s % m : Nat) : Int), AV.bool true)
theorem metL_ne {m s k : Nat} (hm : 0 < m) (hk : k < per m s) : ∀ p ∈ metL m s k, ((k * s % m : Nat) : Int) ≠ p.1 := by
  intro p hp
  simp only [metL, List.mem_map, List.mem_range] at hp
  obtain ⟨j, hj, rfl⟩ := hp
  intro e
  have := mark_inj hm hk (show j < per m s by omega) (Int.natCast_inj.1 e)
  omega
theorem metL_zero {m s k : Nat} (hk : 0 < k) : (metL m s k).lookup 0 = some (.bool true) := by
  obtain ⟨k, rfl⟩ : ∃ k', k = k' + 1 := ⟨k - 1, by omega⟩
  have : metL m s (k + 1) = (((0 * s % m : Nat) : Int), AV.bool true) :: ((List.range k).map Nat.succ).map fun (j : Nat) => (((j * s % m : Nat) : Int), AV.bool true) := by
    unfold metL; rw [List.range_succ_eq_map]; rfl
  rw [this, List.lookup_cons]
  simp
theorem metL_succ (m s k : Nat) : metL m s (k + 1) = metL m s k ++ [(((k * s % m : Nat) : Int), AV.bool true)] := by
  unfold metL; rw [List.range_succ, List.map_append]; rfl
theorem step_mark (m s k : Nat) : (k * s % m + s) % m = (k + 1) * s % m := by rw [Nat.mod_add_mod, Nat.add_mul, Nat.one_mul]
set_option maxRecDepth 100000 in
theorem diff_ac0 (m s : Nat) (h1 : 1 ≤ m) (h2 : m ≤ 100) (h3 : s < m) (H : AH) (Q : AV → AH → Prop) (h : ∀ H', Ext H H' → Q (.int .i64 (per m s : Nat)) H') : AC Try.prog 49 [.int .i64 m, .int .i64 s] H Q := by
  refine L_body 23 Try.func49 rfl rfl ?_
  refine L_reg [0, 1] (fun K hK => ?_)
  simp
  apply hK; clear hK K
  refine L_reg [0, 1, 5] (fun K hK => ?_)
  simp
  apply hK; clear hK K
  refine L_reg [0, 1, 5, 6, 7] (fun K hK => ?_)
  simp [make_I mt93]
  apply hK; clear hK K
  have hM : MapI (H ++ [AObj.map (mapL [])]) H.length (metL m s 0) := by simp [MapI, metL]
  have hE := Ext.push H [AObj.map (mapL [])]
  generalize H ++ [AObj.map (mapL [])] = H1 at hM hE ⊢
  generalize hq : H.length = q at *
  have hpp := per_pos (m := m) (s := s) (by omega)
  have hpm := per_le m s
  refine L_block (L_loopV [5, 6] (fun n vs H' => ∃ k : Nat, n = per m s - k ∧ k ≤ per m s ∧ vs = [.int .i64 k, .int .i64 (k * s % m : Nat)] ∧ MapI H' q (metL m s k) ∧ Ext H H') _ [.int .i64 (0 : Nat), .int .i64 (0 : Nat)] rfl ⟨0, rfl, by omega, by simp, hM, hE⟩ ?_)
  clear hM hE H1
  rintro n _ H1 ⟨k, rfl, hk, rfl, hM, hE⟩
  have hml : k * s % m < m := Nat.mod_lt _ (by omega)
  by_cases hlt : k < per m s
  · have hne := metL_ne (by omega) hlt
    have hlook := look_I (ok := false) mt93 hM (k := ((k * s % m : Nat) : Int))
    rw [lookup_none hne] at hlook
    have hput := put_I mt93 hM (k := ((k * s % m : Nat) : Int)) (v := .bool true)
    rw [putL_new hne, ← metL_succ] at hput
    have hst := step_mark m s k
    generalize k * s % m = w at hlook hput hst hml
    refine L_reg [0, 1, 5, 6, 7, 12] (fun K hK => ?_)
    simp [hlook, lookV]
    apply hK; clear hK K
    refine L_true rfl ?_
    refine L_block ?_
    refine L_reg [0, 1, 5, 6, 7] (fun K hK => ?_)
    simp [hput]
    apply hK; clear hK K
    refine L_reg [0, 1, 5, 6, 7] (fun K hK => ?_)
    simp [wrap_i64 (a := (k : Int) + 1) (by omega)]
    apply hK; clear hK K
    have hne : m ≠ 0 := by omega
    have e2 : ((w : Int) + s).tmod m = (((k + 1) * s % m : Nat) : Int) := by
      rw [show (w : Int) + s = ((w + s : Nat) : Int) by omega, Int.tmod_eq_emod_of_nonneg (by omega), ← hst]; rfl
    generalize hw2 : (k + 1) * s % m = w2 at e2
    refine L_reg [0, 1, 5, 6, 7] (fun K hK => ?_)
    simp [hne, wrap_i64 (a := (w : Int) + s) (by omega), e2]
    apply hK; clear hK K
    refine ⟨per m s - (k + 1), [.int .i64 (k + 1 : Nat), .int .i64 w2], by omega, by simp, k + 1, rfl, by omega, by rw [hw2], ?_, hE.set _ (by omega)⟩
    have hql := (List.getElem?_eq_some_iff.1 hM).1
    simp [MapI, hql]
  · have hk' : k = per m s := by omega
    have hz : k * s % m = 0 := (per_dvd (by omega)).2 (by rw [hk']; exact Nat.dvd_refl _)
    have hlook := look_I (ok := false) mt93 hM (k := ((k * s % m : Nat) : Int))
    rw [hz] at hlook
    rw [show ((0 : Nat) : Int) = 0 from rfl, metL_zero (by omega)] at hlook
    rw [hz]
    refine L_reg [0, 1, 5, 6, 7, 12] (fun K hK => ?_)
    simp [hlook, lookV]
    apply hK; clear hK K
    refine L_false rfl (L_exit ?_)
    refine L_reg [4] (fun K hK => ?_)
    simp
    apply hK; clear hK K
    exact L_ret ⟨.inr rfl, _, rfl, by rw [hk']; exact h _ hE⟩
theorem diff_ac (m s : Nat) (h1 : 1 ≤ m) (h2 : m ≤ 100) (h3 : s < m) (H : AH) (Q : AV → AH → Prop) (h : Q (.int .i64 (per m s : Nat)) H) : AC Try.prog 49 [.int .i64 m, .int .i64 s] H Q :=
  AC.quiet (belB_int _ _ _ _) (fun Q h => diff_ac0 m s h1 h2 h3 H Q h) Q h
end Go.Proofs.Ytjfmiohgkcjdnaa

/- Wrappers by numbers; lists that are equal. -/
namespace Go.Proofs.Ytjfmiohgkcjdnaa
open Go Go.Proofs.Ytjfmiohgkcjdnaa.AX

/-- Turns of a wrapper by numbers. -/
def mM (a : Nat) : Nat := 1 + a % 100
def mS (a b : Nat) : Nat := b % mM a
def mT (a b c : Nat) : Nat := 1 + c % per (mM a) (mS a b)
theorem mM_ok (a : Nat) : 1 ≤ mM a ∧ mM a ≤ 100 := by unfold mM; omega
theorem mS_ok (a b : Nat) : mS a b < mM a := Nat.mod_lt _ (by have := mM_ok a; omega)
theorem mT_ok (a b c : Nat) : 1 ≤ mT a b c ∧ mT a b c ≤ per (mM a) (mS a b) := by
  have h := per_pos (m := mM a) (s := mS a b) (by have := mM_ok a; omega)
  have := Nat.mod_lt c h
  unfold mT; omega
theorem box3u (H : AH) (m s t : Int) : ∃ H1, H ++ [AObj.row [.int .u8 m, .int .u8 s, .int .u8 t] 0 0 false] = H1 ∧ Ext H H1 ∧ H.length < H1.length ∧ H1[H.length]? = some (.row [.int .u8 m, .int .u8 s, .int .u8 t] 0 0 false) ∧ ld H1 H.length 0 0 = some (.int .u8 m) ∧ ld H1 H.length 1 0 = some (.int .u8 s) ∧ ld H1 H.length 2 0 = some (.int .u8 t) ∧ ldn H1 H.length 0 3 0 = some [.int .u8 m, .int .u8 s, .int .u8 t] := by
  refine ⟨_, rfl, .push _ _, by simp, by simp, ?_, ?_, ?_, ?_⟩
  · rw [ld_row (c := [.int .u8 m, .int .u8 s, .int .u8 t]) (s := 0) (ro := false) (by simp)]; rfl
  · rw [ld_row (c := [.int .u8 m, .int .u8 s, .int .u8 t]) (s := 0) (ro := false) (by simp)]; rfl
  · rw [ld_row (c := [.int .u8 m, .int .u8 s, .int .u8 t]) (s := 0) (ro := false) (by simp)]; rfl
  · rw [ldn_row (c := [.int .u8 m, .int .u8 s, .int .u8 t]) (s := 0) (ro := false) (by simp)]; rfl
theorem tmodN (a b : Nat) : ((a : Int)).tmod b = ((a % b : Nat) : Int) := by rw [Int.tmod_eq_emod_of_nonneg (by omega)]; rfl
set_option maxRecDepth 100000 in
theorem made_ac0 (a b c : Nat) (ha : a < 256) (hb : b < 256) (hc : c < 256) (H : AH) (Q : AV → AH → Prop) (h : ∀ H', Ext H H' → Q (WV (mM a) (mS a b) (mT a b c)) H') : AC Try.prog 45 [.agg [.int .u8 a, .int .u8 b, .int .u8 c], .int .i64 100] H Q := by
  refine L_body 32 Try.func45 rfl rfl ?_
  obtain ⟨H1, e, hE, hl1, r1, l0, l1, l2, la⟩ := box3u H a b c
  obtain ⟨I23, hI23, hz23⟩ := zeroT_some zt23
  obtain ⟨H2, e2, hE2, hl2, r2, -⟩ := box3 H1 0 0 0
  have e12 : H ++ [AObj.row [.int .u8 a, .int .u8 b, .int .u8 c] 0 0 false, AObj.row [.int .i64 0, .int .i64 0, .int .i64 0] 0 0 false] = H2 := by rw [← e2, ← e, List.append_assoc]; rfl
  have hp1 : H.length + 1 = H1.length := by rw [← e]; simp
  refine L_reg [1, 2, 4] (fun K hK => ?_)
  simp [AV.isU, acells, hI23, hz23]
  apply hK; clear hK K
  rw [e12]
  simp only [hp1]
  generalize hp : H.length = p at *
  generalize hq : H1.length = q at *
  have hm := mM_ok a
  have hs := mS_ok a b
  have ht := mT_ok a b c
  have k0 := hE2.ld l0
  have k1 := hE2.ld l1
  have k2 := hE2.ld l2
  have hEH2 := hE.trans hE2
  have d1 : ((a : Int)).tmod 100 = ((a % 100 : Nat) : Int) := tmodN a 100
  have d1' : (1 : Int) + ((a % 100 : Nat) : Int) = ((mM a : Nat) : Int) := by unfold mM; omega
  generalize a % 100 = x at d1 d1'
  generalize hmm : mM a = m at *
  refine L_reg [2, 4, 5] (fun K hK => ?_)
  simp [k0, wrap_i64 (a := (a : Int)) (by omega), d1, d1', wrap_i64 (a := (m : Int)) (by omega), hI23, hz23, newW]
  apply hK; clear hK K
  obtain ⟨H3, e3, hE3, hl3, r3, b3⟩ := box3 H2 m 0 0
  rw [e3]
  generalize hw : H2.length = w at *
  have j1 := hE3.ld k1
  have j2 := hE3.ld k2
  have hmne : m ≠ 0 := by omega
  have d2 : ((b : Int)).tmod m = ((mS a b : Nat) : Int) := by rw [tmodN]; unfold mS; rw [hmm]
  generalize hss : mS a b = s at *
  refine L_reg [2, 4, 5] (fun K hK => ?_)
  simp [j1, b3.l0, wrap_i64 (a := (b : Int)) (by omega), hmne, d2, setS r3]
  apply hK; clear hK K
  have r4 := get_set (o' := AObj.row [.int .i64 m, .int .i64 s, .int .i64 0] 0 (min 0 1) false) r3
  have hO : ∀ j, j ≠ w → (H3.set w (AObj.row [.int .i64 m, .int .i64 s, .int .i64 0] 0 (min 0 1) false))[j]? = H3[j]? := fun j hj => set_ne (Ne.symm hj)
  have hl4 : (H3.set w (AObj.row [.int .i64 m, .int .i64 s, .int .i64 0] 0 (min 0 1) false)).length = H3.length := by simp
  simp only [Nat.zero_min] at r4 hO hl4 ⊢
  generalize H3.set w (AObj.row [.int .i64 m, .int .i64 s, .int .i64 0] 0 0 false) = H4 at r4 hO hl4 ⊢
  have b4 := Bx.row r4
  have r1' : H4[p]? = some (.row [.int .u8 a, .int .u8 b, .int .u8 c] 0 0 false) := by rw [hO _ (by omega)]; exact hE3.row (hE2.row r1)
  have i2 : ld H4 p 2 0 = some (.int .u8 c) := by rw [ld_row r1']; rfl
  have hpp := per_pos (m := m) (s := s) (by omega)
  have hpm := per_le m s
  have d3 : ((c : Int)).tmod (per m s : Nat) = ((c % per m s : Nat) : Int) := tmodN c _
  have d3' : (1 : Int) + ((c % per m s : Nat) : Int) = ((mT a b c : Nat) : Int) := by unfold mT; rw [hmm, hss]; omega
  generalize c % per m s = y at d3 d3'
  generalize mT a b c = t at *
  have hpne : per m s ≠ 0 := by omega
  have hst := setT r4 (t : Int)
  refine L_regW mixed 11 [4, 5] (by kernel_rfl) (fun K hK => ?_)
  simp [okFn_low, i2, b4.l0, b4.l1, wrap_i64 (a := (c : Int)) (by omega)]
  refine exX_mk (fun Q hQ => diff_ac m s hm.1 hm.2 hs H4 Q hQ) (.refl _) ?_
  simp [hpne, d3, d3', wrap_i64 (a := (t : Int)) (by omega), hst]
  apply hK; clear hK K
  have r5 := get_set (o' := AObj.row [.int .i64 m, .int .i64 s, .int .i64 t] 0 (min 0 2) false) r4
  have r2' : (H4.set w (AObj.row [.int .i64 m, .int .i64 s, .int .i64 t] 0 (min 0 2) false))[q]? = some (.row [.int .i64 0, .int .i64 0, .int .i64 0] 0 0 false) := by rw [set_ne (by omega), hO _ (by omega)]; exact hE3.row r2
  have hE5 : Ext H (H4.set w (AObj.row [.int .i64 m, .int .i64 s, .int .i64 t] 0 (min 0 2) false)) := ⟨by simp; have := hEH2.1; have := hE3.1; omega, fun j hj => by rw [set_ne (by omega), hO _ (by omega), hE3.2 j (by omega), hEH2.2 j hj]⟩
  simp only [Nat.zero_min] at r5 r2' hE5 ⊢
  generalize H4.set w (AObj.row [.int .i64 m, .int .i64 s, .int .i64 t] 0 0 false) = H5 at r5 r2' hE5 ⊢
  refine L_reg [4] (fun K hK => ?_)
  simp [(Bx.row r5).la, setW r2']
  apply hK; clear hK K
  refine L_ret ⟨.inr rfl, _, ?_, h _ (hE5.set _ (by omega))⟩
  refine res_cell rfl ?_
  simp [(Bx.row (get_set r2')).la, WV]
theorem made_ac (a b c : Nat) (ha : a < 256) (hb : b < 256) (hc : c < 256) (H : AH) (Q : AV → AH → Prop) (h : Q (WV (mM a) (mS a b) (mT a b c)) H) : AC Try.prog 45 [.agg [.int .u8 a, .int .u8 b, .int .u8 c], .int .i64 100] H Q :=
  AC.quiet (by simp [belB, WV]) (fun Q h => made_ac0 a b c ha hb hc H Q h) Q h
theorem same_ac (u v : AV) (l m : List Int) (H : AH) (Q : AV → AH → Prop) (hlen : l.length ≤ 1000000) (hu : Ls H u l) (hv : Ls H v m) (h : Q (.bool (decide (l = m))) H) : AC Try.prog 35 [u, v] H Q := by
  obtain ⟨r, off, ver, sz, full, rfl, hld⟩ := hu
  obtain ⟨r2, off2, ver2, sz2, full2, rfl, hld2⟩ := hv
  refine L_body 26 Try.func35 rfl rfl ?_
  refine L_reg [0, 1] (fun K hK => ?_)
  simp
  apply hK; clear hK K
  refine L_reg [0, 1, 10] (fun K hK => ?_)
  simp
  apply hK; clear hK K
  refine L_split rfl (fun hne => ?_) (fun he => ?_)
  · have hd : l ≠ m := by
      rintro rfl
      simp at hne
    rw [decide_eq_false hd] at h
    refine L_reg [4] (fun K hK => ?_)
    simp
    apply hK; clear hK K
    exact L_ret ⟨.inr rfl, _, rfl, h⟩
  have hlm : l.length = m.length := by
    have : (l.length : Int) = m.length := by simpa using he
    omega
  refine L_reg [0, 1, 5] (fun K hK => ?_)
  simp
  apply hK; clear hK K
  refine L_block (L_loopV [5] (fun k vs H' => ∃ i : Nat, k = l.length - i ∧ i ≤ l.length ∧ (∀ j, j < i → l[j]? = m[j]?) ∧ vs = [.int .i64 i] ∧ H = H') _ [.int .i64 (0 : Nat)] rfl ⟨0, rfl, by omega, fun j hj => by omega, rfl, rfl⟩ ?_)
  rintro k _ _ ⟨i, rfl, hi, hsame, rfl, rfl⟩
  refine L_reg [0, 1, 5, 14] (fun K hK => ?_)
  simp
  apply hK; clear hK K
  refine L_dec (i < l.length) (by simp) (fun hlt => ?_) (fun hge => L_exit ?_)
  · obtain ⟨r', rfl, rfl, hrd⟩ := hld i hlt
    have hlt2 : i < m.length := by omega
    obtain ⟨r3, rfl, rfl, hrd2⟩ := hld2 i hlt2
    refine L_block ?_
    refine L_regQ mixed [0, 1, 5, 25] (by kernel_rfl) (fun K hK => ?_)
    simp [hlt, hlt2, hrd, hrd2]
    apply hK; clear hK K
    refine L_split rfl (fun hne => ?_) (fun he => ?_)
    · have hd : l ≠ m := by
        rintro rfl
        simp at hne
      rw [decide_eq_false hd] at h
      refine L_reg [4] (fun K hK => ?_)
      simp
      apply hK; clear hK K
      exact L_ret ⟨.inr rfl, _, rfl, h⟩
    · have heq : l[i] = m[i] := by simpa using he
      refine L_reg [0, 1, 5] (fun K hK => ?_)
      simp [wrap_i64 (a := (i : Int) + 1) (by omega)]
      apply hK; clear hK K
      refine ⟨l.length - (i + 1), [.int .i64 (i + 1 : Nat)], by omega, by simp, i + 1, rfl, by omega, fun j hj => ?_, rfl, rfl⟩
      by_cases e : j = i
      · subst e; simp [hlt, hlt2, heq]
      · exact hsame j (by omega)
  · have hd : l = m := by
      apply List.ext_getElem?
      intro j
      by_cases hj : j < l.length
      · exact hsame j (by omega)
      · rw [List.getElem?_eq_none (by omega), List.getElem?_eq_none (by omega)]
    rw [decide_eq_true hd] at h
    refine L_reg [4] (fun K hK => ?_)
    simp
    apply hK; clear hK K
    exact L_ret ⟨.inr rfl, _, rfl, h⟩
end Go.Proofs.Ytjfmiohgkcjdnaa

/- What comes nearer: the program, and the law's own reckoning. -/
namespace Go.Proofs.Ytjfmiohgkcjdnaa
open Go Go.Proofs.Ytjfmiohgkcjdnaa.AX

def distN (m s k : Nat) : Nat := min (k * s % m) (m - k * s % m)
/-- The turns up to turn k that come nearer, and the least distance. -/
def nrS (m s : Nat) : Nat → List Int × Nat
  | 0 => ([], m)
  | k + 1 => if distN m s (k + 1) < (nrS m s k).2 then ((nrS m s k).1 ++ [((k + 1 : Nat) : Int)], distN m s (k + 1)) else nrS m s k
theorem nrS_le {m s : Nat} : ∀ k, (nrS m s k).1.length ≤ k ∧ (nrS m s k).2 ≤ m
  | 0 => by simp [nrS]
  | k + 1 => by
    have h := nrS_le (m := m) (s := s) k
    simp only [nrS]
    split
    · have : distN m s (k + 1) ≤ m := by unfold distN; omega
      simp; omega
    · omega
theorem nrS_pos {m s : Nat} (hm : 0 < m) : ∀ k, k < per m s → 0 < (nrS m s k).2
  | 0, _ => hm
  | k + 1, h => by
    have h1 := nrS_pos (s := s) hm k (by omega)
    have hne : (k + 1) * s % m ≠ 0 := by
      intro e
      have h2 : per m s ∣ k + 1 := (per_dvd hm).1 e
      have := Nat.eq_zero_of_dvd_of_lt h2 h
      omega
    have hlt : (k + 1) * s % m < m := Nat.mod_lt _ hm
    simp only [nrS]
    split
    · unfold distN; omega
    · exact h1
theorem nrS_last {m s : Nat} (hm : 0 < m) : ∃ L, (nrS m s (per m s)).1 = L ++ [((per m s : Nat) : Int)] := by
  have hp := per_pos (s := s) hm
  obtain ⟨k, hk⟩ : ∃ k, per m s = k + 1 := ⟨per m s - 1, by omega⟩
  have hz : (k + 1) * s % m = 0 := (per_dvd hm).2 (by rw [hk]; exact Nat.dvd_refl _)
  have h1 := nrS_pos (s := s) hm k (by omega)
  rw [hk]
  refine ⟨(nrS m s k).1, ?_⟩
  have : distN m s (k + 1) < (nrS m s k).2 := by unfold distN; omega
  simp only [nrS]
  rw [if_pos this]
theorem dist_ac0 (m s k : Nat) (t : Int) (h1 : 1 ≤ m) (h2 : m ≤ 100) (h3 : s < m) (hk : k ≤ 100) (H : AH) (Q : AV → AH → Prop) (h : ∀ H', Ext H H' → Q (.int .i64 (distN m s k : Nat)) H') : AC Try.prog 79 [WV m s t, .int .i64 k] H Q := by
  refine L_body 15 Try.func79 rfl rfl ?_
  refine L_reg [1, 2] (fun K hK => ?_)
  simp [AV.isU, acells, WV]
  apply hK; clear hK K
  obtain ⟨H1, e, hE, hl1, r1, b⟩ := box3 H m s t
  rw [e]
  have hks : k * s ≤ 10000 := by calc k * s ≤ 100 * 100 := Nat.mul_le_mul hk (by omega)
    _ ≤ 10000 := by decide
  have hml : k * s % m < m := Nat.mod_lt _ (by omega)
  unfold distN at h
  generalize hw : k * s % m = w at h hml
  refine L_reg [2, 5] (fun K hK => ?_)
  simp [okFn_low, b.la]
  refine mark_ac m s k t (by omega) (by omega) _ _ ?_
  simp [hw]
  apply hK; clear hK K
  refine L_reg [4] (fun K hK => ?_)
  simp [b.l0, wrap_i64 (a := (m : Int) - w) (by omega)]
  apply hK; clear hK K
  have e2 : min (w : Int) ((m : Int) - w) = ((min w (m - w) : Nat) : Int) := by omega
  exact L_ret ⟨.inr rfl, _, rfl, by rw [e2]; exact h _ hE⟩
theorem dist_ac (m s k : Nat) (t : Int) (h1 : 1 ≤ m) (h2 : m ≤ 100) (h3 : s < m) (hk : k ≤ 100) (H : AH) (Q : AV → AH → Prop) (h : Q (.int .i64 (distN m s k : Nat)) H) : AC Try.prog 79 [WV m s t, .int .i64 k] H Q :=
  AC.quiet (belB_int _ _ _ _) (fun Q h => dist_ac0 m s k t h1 h2 h3 hk H Q h) Q h
def nearR (m s : Int) : List Int := if circleE m s = 0 then (nrS m.toNat s.toNat (per m.toNat s.toNat)).1 else []
set_option maxRecDepth 100000 in
theorem Nearer_ac (m s : Int) (H : AH) (Q : AV → AH → Prop) (h : ∀ v H', OwnF H.length H' v ((nearR m s).map (.int .i64)) → Ext H H' → Q (.tuple [v, .int .i64 (circleE m s)]) H') : AC Try.prog 39 [.int .i64 m, .int .i64 s] H Q := by
  refine L_body 41 Try.func39 rfl rfl ?_
  refine L_reg [0, 1] (fun K hK => ?_)
  simp
  apply hK; clear hK K
  unfold nearR at h
  by_cases h0 : circleE m s = 0
  · simp only [h0, if_true] at h
    have hv : wholeV m s = WV m s (per m.toNat s.toNat : Nat) := by rw [wholeV, if_pos h0]
    refine L_reg [6, 7] (fun K hK => ?_)
    simp [okFn_low]
    refine whole_ac m s _ _ ?_
    simp [alloc_z zt23, hv, h0, WV, newW]
    apply hK; clear hK K
    obtain ⟨m, s, rfl, rfl, a1, a2, a3⟩ := circleE_zero h0
    obtain ⟨H1, e, hE, hl1, r1, b⟩ := box3 H m s (per m s : Nat)
    simp only [Int.toNat_natCast] at h ⊢
    rw [e]
    generalize hp : H.length = p at *
    refine L_reg [6, 7, 19] (fun K hK => ?_)
    simp
    apply hK; clear hK K
    refine L_false (by simp) ?_
    refine L_reg [6, 8] (fun K hK => ?_)
    simp
    apply hK; clear hK K
    refine L_reg [6, 8, 9] (fun K hK => ?_)
    simp [b.l0]
    apply hK; clear hK K
    refine L_reg [6, 8, 9, 10] (fun K hK => ?_)
    simp
    apply hK; clear hK K
    have hpm := per_le m s
    refine L_block (L_loopV [8, 9, 10] (fun n vs H' => ∃ (k : Nat) (v : AV), n = per m s - k ∧ k ≤ per m s ∧ vs = [v, .int .i64 (nrS m s k).2, .int .i64 ((k : Int) + 1)] ∧ OwnF H1.length H' v ((nrS m s k).1.map (.int .i64)) ∧ Ext H1 H') _ [.slice none 0 0 0 1 false, .int .i64 (m : Nat), .int .i64 1] rfl ⟨0, _, rfl, by omega, rfl, .nil _ _, .refl _⟩ ?_)
    rintro n _ H2 ⟨k, v, rfl, hk, rfl, hO, hE2⟩
    have b2 := b.ext hE2
    refine L_reg [6, 8, 9, 10, 26] (fun K hK => ?_)
    simp [b2.l2]
    apply hK; clear hK K
    have hle := nrS_le (m := m) (s := s) k
    refine L_dec ((k : Int) + 1 ≤ per m s) (by simp) (fun hlt => ?_) (fun hge => L_exit ?_)
    · refine L_block ?_
      have hsucc : nrS m s (k + 1) = if distN m s (k + 1) < (nrS m s k).2 then ((nrS m s k).1 ++ [((k + 1 : Nat) : Int)], distN m s (k + 1)) else nrS m s k := rfl
      have hdd := dist_ac m s (k + 1) (per m s : Nat) a1 a2 a3 (by omega) H2
      have hk1 : ((k + 1 : Nat) : Int) = (k : Int) + 1 := by omega
      rw [hk1] at hdd hsucc
      generalize distN m s (k + 1) = d at hdd hsucc
      generalize hnr : nrS m s k = nn at hO hle hsucc
      obtain ⟨L, nr⟩ := nn
      simp only at hO hle hsucc
      refine L_reg [6, 8, 9, 10, 11] (fun K hK => ?_)
      simp [okFn_low, b2.la]
      refine hdd _ ?_
      simp
      apply hK; clear hK K
      refine L_reg [6, 8, 9, 10, 11, 34] (fun K hK => ?_)
      simp
      apply hK; clear hK K
      refine L_dec (d < nr) (by simp) (fun hd => ?_) (fun hd => ?_)
      · rw [if_pos hd] at hsucc
        obtain ⟨v', H3, happ, hO3, hE3⟩ := ownF_append hE2 el36 el36 (x := .int .i64 ((k : Int) + 1)) (m := 1) hO rfl (by simp; omega)
        refine L_reg [6, 8, 9, 10] (fun K hK => ?_)
        simp
        apply hK; clear hK K
        refine L_reg [6, 8, 9, 10] (fun K hK => ?_)
        simp [happ]
        apply hK; clear hK K
        refine L_reg [6, 8, 9, 10] (fun K hK => ?_)
        simp [wrap_i64 (a := (k : Int) + 1 + 1) (by omega)]
        apply hK; clear hK K
        refine ⟨per m s - (k + 1), [v', .int .i64 d, .int .i64 ((k : Int) + 1 + 1)], by omega, by simp, k + 1, v', rfl, by omega, by rw [hsucc]; simp, by rw [hsucc]; simpa using hO3, hE3⟩
      · rw [if_neg hd] at hsucc
        refine L_reg [6, 8, 9, 10] (fun K hK => ?_)
        simp [wrap_i64 (a := (k : Int) + 1 + 1) (by omega)]
        apply hK; clear hK K
        refine ⟨per m s - (k + 1), [v, .int .i64 nr, .int .i64 ((k : Int) + 1 + 1)], by omega, by simp, k + 1, v, rfl, by omega, by rw [hsucc]; simp, by rw [hsucc]; exact hO, hE2⟩
    · have hk' : k = per m s := by omega
      refine L_reg [4, 5] (fun K hK => ?_)
      simp
      apply hK; clear hK K
      exact L_ret ⟨.inr rfl, _, rfl, h v H2 (by rw [← hk']; exact hO.mono (by omega)) (hE.trans hE2)⟩
  · simp only [if_neg h0] at h
    have hv : wholeV m s = WV 0 0 0 := by rw [wholeV, if_neg h0]
    refine L_reg [6, 7] (fun K hK => ?_)
    simp [okFn_low]
    refine whole_ac m s _ _ ?_
    simp [alloc_z zt23, hv, WV, newW]
    apply hK; clear hK K
    refine L_reg [6, 7, 19] (fun K hK => ?_)
    simp
    apply hK; clear hK K
    refine L_true (by simp [h0]) ?_
    refine L_reg [4, 5] (fun K hK => ?_)
    simp
    apply hK; clear hK K
    exact L_ret ⟨.inr rfl, _, rfl, h _ _ (.nil _ _) (.push _ _)⟩
end Go.Proofs.Ytjfmiohgkcjdnaa

/- What the package answers: which turn follows, gaps, even numbers of turns. -/
namespace Go.Proofs.Ytjfmiohgkcjdnaa
open Go Go.Proofs.Ytjfmiohgkcjdnaa.AX

def nextS (m s t k : Int) : Int × Int := if turnE m s t k = 0 then ((nbS m.toNat s.toNat t.toNat 0 m.toNat (k.toNat * s.toNat % m.toNat) k.toNat : Nat), 0) else (0, turnE m s t k)
theorem Next_ac0 (m s t k : Int) (H : AH) (Q : AV → AH → Prop) (h : ∀ H', Ext H H' → Q (.tuple [.int .i64 (nextS m s t k).1, .int .i64 (nextS m s t k).2]) H') : AC Try.prog 22 [WV m s t, .int .i64 k] H Q := by
  refine L_body 16 Try.func22 rfl rfl ?_
  refine L_reg [1, 2] (fun K hK => ?_)
  simp [AV.isU, acells, WV]
  apply hK; clear hK K
  obtain ⟨H1, e, hE, -, -, b⟩ := box3 H m s t
  rw [e]
  refine L_reg [1, 2, 6] (fun K hK => ?_)
  simp [okFn_low, b.la]
  refine checkTurn_ac m s t k _ _ ?_
  simp
  apply hK; clear hK K
  refine L_reg [1, 2, 6, 11] (fun K hK => ?_)
  simp
  apply hK; clear hK K
  by_cases h0 : turnE m s t k = 0
  · refine L_false (by simp [h0]) ?_
    obtain ⟨m, s, t, k, rfl, rfl, rfl, rfl, a1, a2, a3, a4, a5, a6⟩ := turnE_zero h0
    refine L_reg [4, 5] (fun K hK => ?_)
    simp [okFn_low, b.la]
    refine neigh_ac m s t k 0 a1 a2 a3 a4 a5 (by omega) _ _ ?_
    simp
    apply hK; clear hK K
    exact L_ret ⟨.inr rfl, _, rfl, by simpa [nextS, h0] using h _ hE⟩
  · refine L_true (by simp [h0]) ?_
    refine L_reg [4, 5] (fun K hK => ?_)
    simp
    apply hK; clear hK K
    exact L_ret ⟨.inr rfl, _, rfl, by simpa [nextS, h0] using h _ hE⟩
theorem Next_ac (m s t k : Int) (H : AH) (Q : AV → AH → Prop) (h : Q (.tuple [.int .i64 (nextS m s t k).1, .int .i64 (nextS m s t k).2]) H) : AC Try.prog 22 [WV m s t, .int .i64 k] H Q :=
  AC.quiet (by simp [belB]) (fun Q h => Next_ac0 m s t k H Q h) Q h
def beforeS (m s t k : Int) : Int × Int := if turnE m s t k = 0 then ((nbS m.toNat s.toNat t.toNat 1 m.toNat (k.toNat * s.toNat % m.toNat) k.toNat : Nat), 0) else (0, turnE m s t k)
theorem Before_ac0 (m s t k : Int) (H : AH) (Q : AV → AH → Prop) (h : ∀ H', Ext H H' → Q (.tuple [.int .i64 (beforeS m s t k).1, .int .i64 (beforeS m s t k).2]) H') : AC Try.prog 24 [WV m s t, .int .i64 k] H Q := by
  refine L_body 16 Try.func24 rfl rfl ?_
  refine L_reg [1, 2] (fun K hK => ?_)
  simp [AV.isU, acells, WV]
  apply hK; clear hK K
  obtain ⟨H1, e, hE, -, -, b⟩ := box3 H m s t
  rw [e]
  refine L_reg [1, 2, 6] (fun K hK => ?_)
  simp [okFn_low, b.la]
  refine checkTurn_ac m s t k _ _ ?_
  simp
  apply hK; clear hK K
  refine L_reg [1, 2, 6, 11] (fun K hK => ?_)
  simp
  apply hK; clear hK K
  by_cases h0 : turnE m s t k = 0
  · refine L_false (by simp [h0]) ?_
    obtain ⟨m, s, t, k, rfl, rfl, rfl, rfl, a1, a2, a3, a4, a5, a6⟩ := turnE_zero h0
    refine L_reg [4, 5] (fun K hK => ?_)
    simp [okFn_low, b.la]
    refine neigh_ac m s t k 1 a1 a2 a3 a4 a5 (by omega) _ _ ?_
    simp
    apply hK; clear hK K
    exact L_ret ⟨.inr rfl, _, rfl, by simpa [beforeS, h0] using h _ hE⟩
  · refine L_true (by simp [h0]) ?_
    refine L_reg [4, 5] (fun K hK => ?_)
    simp
    apply hK; clear hK K
    exact L_ret ⟨.inr rfl, _, rfl, by simpa [beforeS, h0] using h _ hE⟩
theorem Before_ac (m s t k : Int) (H : AH) (Q : AV → AH → Prop) (h : Q (.tuple [.int .i64 (beforeS m s t k).1, .int .i64 (beforeS m s t k).2]) H) : AC Try.prog 24 [WV m s t, .int .i64 k] H Q :=
  AC.quiet (by simp [belB]) (fun Q h => Before_ac0 m s t k H Q h) Q h
def dividesS (m s t : Int) : Int × Int × Int := if checkE m s t = 0 then (if t = (per m.toNat s.toNat : Nat) then (0, 0, 12) else ((nbS m.toNat s.toNat t.toNat 1 m.toNat (t.toNat * s.toNat % m.toNat) t.toNat : Nat), (nbS m.toNat s.toNat t.toNat 0 m.toNat (t.toNat * s.toNat % m.toNat) t.toNat : Nat), 0)) else (0, 0, checkE m s t)
theorem Divides_ac0 (m s t : Int) (H : AH) (Q : AV → AH → Prop) (h : ∀ H', Ext H H' → Q (.tuple [.int .i64 (dividesS m s t).1, .int .i64 (dividesS m s t).2.1, .int .i64 (dividesS m s t).2.2]) H') : AC Try.prog 26 [WV m s t] H Q := by
  refine L_body 24 Try.func26 rfl rfl ?_
  refine L_reg [1] (fun K hK => ?_)
  simp [AV.isU, acells, WV]
  apply hK; clear hK K
  obtain ⟨H1, e, hE, -, -, b⟩ := box3 H m s t
  rw [e]
  refine L_reg [1, 5] (fun K hK => ?_)
  simp [okFn_low, b.la]
  refine Check_ac m s t _ _ ?_
  simp
  apply hK; clear hK K
  refine L_reg [1, 5, 9] (fun K hK => ?_)
  simp
  apply hK; clear hK K
  by_cases h0 : checkE m s t = 0
  · refine L_false (by simp [h0]) ?_
    obtain ⟨m, s, t, rfl, rfl, rfl, a1, a2, a3, a4, a5⟩ := checkE_zero h0
    refine L_regQ mixed [1, 15] (by kernel_rfl) (fun K hK => ?_)
    simp [okFn_low, b.l2, b.la]
    refine exQ_mk (fun Q hQ => differ_ac m s t (by omega) (by omega) (by omega) H1 Q hQ) ?_
    simp
    apply hK; clear hK K
    by_cases h1 : (t : Int) = (per m s : Nat)
    · refine L_true (by simp; omega) ?_
      refine L_reg [2, 3, 4] (fun K hK => ?_)
      simp
      apply hK; clear hK K
      have hd : dividesS m s t = (0, 0, 12) := by unfold dividesS; rw [if_pos h0, if_pos (by simpa using h1)]
      exact L_ret ⟨.inr rfl, _, rfl, by have h2 := h _ hE; rw [hd] at h2; exact h2⟩
    · refine L_false (by simp; omega) ?_
      refine L_regQ mixed [2, 3, 4] (by kernel_rfl) (fun K hK => ?_)
      simp [okFn_low, b.l2, b.la]
      refine exQ_mk (fun Q hQ => neigh_ac m s t t 1 a1 a2 a3 a4 a5 (by omega) H1 Q hQ) ?_
      simp [okFn_low, b.l2, b.la]
      refine exQ_mk (fun Q hQ => neigh_ac m s t t 0 a1 a2 a3 a4 a5 (by omega) H1 Q hQ) ?_
      simp
      apply hK; clear hK K
      have hd : dividesS m s t = (((nbS m s t 1 m (t * s % m) t : Nat) : Int), ((nbS m s t 0 m (t * s % m) t : Nat) : Int), 0) := by unfold dividesS; rw [if_pos h0, if_neg (by simpa using h1)]; rfl
      exact L_ret ⟨.inr rfl, _, rfl, by have h2 := h _ hE; rw [hd] at h2; exact h2⟩
  · refine L_true (by simp [h0]) ?_
    refine L_reg [2, 3, 4] (fun K hK => ?_)
    simp
    apply hK; clear hK K
    exact L_ret ⟨.inr rfl, _, rfl, by simpa [dividesS, h0] using h _ hE⟩
theorem Divides_ac (m s t : Int) (H : AH) (Q : AV → AH → Prop) (h : Q (.tuple [.int .i64 (dividesS m s t).1, .int .i64 (dividesS m s t).2.1, .int .i64 (dividesS m s t).2.2]) H) : AC Try.prog 26 [WV m s t] H Q :=
  AC.quiet (by simp [belB]) (fun Q h => Divides_ac0 m s t H Q h) Q h
def roundR (m s t : Int) : List Int := if checkE m s t = 0 then roundS m.toNat s.toNat t.toNat else []
theorem Round_ac (m s t : Int) (H : AH) (Q : AV → AH → Prop) (h : ∀ v H', OwnF H.length H' v ((roundR m s t).map (.int .i64)) → Ext H H' → Q (.tuple [v, .int .i64 (checkE m s t)]) H') : AC Try.prog 29 [WV m s t] H Q := by
  refine L_body 12 Try.func29 rfl rfl ?_
  refine L_reg [1] (fun K hK => ?_)
  simp [AV.isU, acells, WV]
  apply hK; clear hK K
  obtain ⟨H1, e, hE, -, -, b⟩ := box3 H m s t
  rw [e]
  refine L_reg [1, 4] (fun K hK => ?_)
  simp [okFn_low, b.la]
  refine Check_ac m s t _ _ ?_
  simp
  apply hK; clear hK K
  refine L_reg [1, 4, 8] (fun K hK => ?_)
  simp
  apply hK; clear hK K
  unfold roundR at h
  by_cases h0 : checkE m s t = 0
  · refine L_false (by simp [h0]) ?_
    rw [if_pos h0, h0] at h
    obtain ⟨m, s, t, rfl, rfl, rfl, a1, a2, a3, a4, a5⟩ := checkE_zero h0
    simp only [Int.toNat_natCast] at h
    refine L_reg [2, 3] (fun K hK => ?_)
    simp [okFn_low, b.la]
    refine roundOk m s t a1 a2 a3 a5 _ _ (fun v H2 hO hE2 => ?_)
    simp
    apply hK; clear hK K
    exact L_ret ⟨.inr rfl, _, rfl, h v H2 (hO.mono hE.1) (hE.trans hE2)⟩
  · refine L_true (by simp [h0]) ?_
    rw [if_neg h0] at h
    refine L_reg [2, 3] (fun K hK => ?_)
    simp
    apply hK; clear hK K
    exact L_ret ⟨.inr rfl, _, rfl, h _ _ (.nil _ _) hE⟩
def gapsR (m s t : Int) : List Int := if checkE m s t = 0 then gapsS m.toNat s.toNat t.toNat else []
theorem Gaps_ac (m s t : Int) (H : AH) (Q : AV → AH → Prop) (h : ∀ v H', OwnF H.length H' v ((gapsR m s t).map (.int .i64)) → Ext H H' → Q (.tuple [v, .int .i64 (checkE m s t)]) H') : AC Try.prog 31 [WV m s t] H Q := by
  refine L_body 12 Try.func31 rfl rfl ?_
  refine L_reg [1] (fun K hK => ?_)
  simp [AV.isU, acells, WV]
  apply hK; clear hK K
  obtain ⟨H1, e, hE, -, -, b⟩ := box3 H m s t
  rw [e]
  refine L_reg [1, 4] (fun K hK => ?_)
  simp [okFn_low, b.la]
  refine Check_ac m s t _ _ ?_
  simp
  apply hK; clear hK K
  refine L_reg [1, 4, 8] (fun K hK => ?_)
  simp
  apply hK; clear hK K
  unfold gapsR at h
  by_cases h0 : checkE m s t = 0
  · refine L_false (by simp [h0]) ?_
    rw [if_pos h0, h0] at h
    obtain ⟨m, s, t, rfl, rfl, rfl, a1, a2, a3, a4, a5⟩ := checkE_zero h0
    simp only [Int.toNat_natCast] at h
    refine L_reg [2, 3] (fun K hK => ?_)
    simp [okFn_low, b.la]
    refine gaps_ac m s t a1 a2 a3 a5 _ _ (fun v H2 hO hE2 => ?_)
    simp
    apply hK; clear hK K
    exact L_ret ⟨.inr rfl, _, rfl, h v H2 (hO.mono hE.1) (hE.trans hE2)⟩
  · refine L_true (by simp [h0]) ?_
    rw [if_neg h0] at h
    refine L_reg [2, 3] (fun K hK => ?_)
    simp
    apply hK; clear hK K
    exact L_ret ⟨.inr rfl, _, rfl, h _ _ (.nil _ _) hE⟩
def widthsR (m s t : Int) : List (Nat × Nat) := if checkE m s t = 0 then widthsS m.toNat s.toNat t.toNat else []
theorem Widths_ac (m s t : Int) (H : AH) (Q : AV → AH → Prop) (h : ∀ v H', OwnK 2 H.length H' v (prs (widthsR m s t)) → Ext H H' → Q (.tuple [v, .int .i64 (checkE m s t)]) H') : AC Try.prog 33 [WV m s t] H Q := by
  refine L_body 12 Try.func33 rfl rfl ?_
  refine L_reg [1] (fun K hK => ?_)
  simp [AV.isU, acells, WV]
  apply hK; clear hK K
  obtain ⟨H1, e, hE, -, -, b⟩ := box3 H m s t
  rw [e]
  refine L_reg [1, 4] (fun K hK => ?_)
  simp [okFn_low, b.la]
  refine Check_ac m s t _ _ ?_
  simp
  apply hK; clear hK K
  refine L_reg [1, 4, 8] (fun K hK => ?_)
  simp
  apply hK; clear hK K
  unfold widthsR at h
  by_cases h0 : checkE m s t = 0
  · refine L_false (by simp [h0]) ?_
    rw [if_pos h0, h0] at h
    obtain ⟨m, s, t, rfl, rfl, rfl, a1, a2, a3, a4, a5⟩ := checkE_zero h0
    simp only [Int.toNat_natCast] at h
    refine L_reg [2, 3] (fun K hK => ?_)
    simp [okFn_low, b.la]
    refine widths_ac m s t a1 a2 a3 a5 _ _ (fun v H2 hO hE2 => ?_)
    simp
    apply hK; clear hK K
    exact L_ret ⟨.inr rfl, _, rfl, h v H2 (⟨hO.1, hO.2.imp id fun ⟨r, ver, st, g1, g2⟩ => ⟨r, ver, st, Nat.le_trans hE.1 g1, g2⟩⟩) (hE.trans hE2)⟩
  · refine L_true (by simp [h0]) ?_
    rw [if_neg h0] at h
    refine L_reg [2, 3] (fun K hK => ?_)
    simp
    apply hK; clear hK K
    exact L_ret ⟨.inr rfl, _, rfl, h _ _ (OwnK.nil _ _ _) hE⟩
def evS (m s : Nat) (k : Nat) : List Int := ((List.range k).filter fun t => decide ((widthsS m s (t + 1)).length ≤ 2)).map fun (t : Nat) => ((t : Int) + 1)
theorem evS_succ (m s k : Nat) : evS m s (k + 1) = if (widthsS m s (k + 1)).length ≤ 2 then evS m s k ++ [(k : Int) + 1] else evS m s k := by
  unfold evS
  rw [List.range_succ, List.filter_append, List.map_append]
  by_cases h : (widthsS m s (k + 1)).length ≤ 2
  · rw [if_pos h]; simp [h]
  · rw [if_neg h]; simp [h]
theorem evS_len (m s k : Nat) : (evS m s k).length ≤ k := by
  unfold evS
  rw [List.length_map]
  have := List.length_filter_le (fun t => decide ((widthsS m s (t + 1)).length ≤ 2)) (List.range k)
  simpa using this
def evensR (m s : Int) : List Int := if circleE m s = 0 then evS m.toNat s.toNat (per m.toNat s.toNat) else []
set_option maxRecDepth 100000 in
theorem Evens_ac (m s : Int) (H : AH) (Q : AV → AH → Prop) (h : ∀ v H', OwnF H.length H' v ((evensR m s).map (.int .i64)) → Ext H H' → Q (.tuple [v, .int .i64 (circleE m s)]) H') : AC Try.prog 37 [.int .i64 m, .int .i64 s] H Q := by
  refine L_body 35 Try.func37 rfl rfl ?_
  refine L_reg [0, 1] (fun K hK => ?_)
  simp
  apply hK; clear hK K
  unfold evensR at h
  by_cases h0 : circleE m s = 0
  · simp only [h0, if_true] at h
    have hv : wholeV m s = WV m s (per m.toNat s.toNat : Nat) := by rw [wholeV, if_pos h0]
    refine L_reg [0, 1, 6, 7] (fun K hK => ?_)
    simp [okFn_low]
    refine whole_ac m s _ _ ?_
    simp [alloc_z zt23, hv, h0, WV, newW]
    apply hK; clear hK K
    obtain ⟨m, s, rfl, rfl, a1, a2, a3⟩ := circleE_zero h0
    obtain ⟨H1, e, hE, hl1, r1, b⟩ := box3 H m s (per m s : Nat)
    simp only [Int.toNat_natCast] at h ⊢
    rw [e]
    generalize hp : H.length = p at *
    refine L_reg [0, 1, 6, 7, 17] (fun K hK => ?_)
    simp
    apply hK; clear hK K
    refine L_false (by simp) ?_
    refine L_reg [0, 1, 6, 8] (fun K hK => ?_)
    simp
    apply hK; clear hK K
    refine L_reg [0, 1, 6, 8, 9] (fun K hK => ?_)
    simp
    apply hK; clear hK K
    have hpm := per_le m s
    refine L_block (L_loopV [8, 9] (fun n vs H' => ∃ (k : Nat) (v : AV), n = per m s - k ∧ k ≤ per m s ∧ vs = [v, .int .i64 ((k : Int) + 1)] ∧ OwnF H1.length H' v ((evS m s k).map (.int .i64)) ∧ Ext H1 H') _ [.slice none 0 0 0 1 false, .int .i64 1] rfl ⟨0, _, rfl, by omega, rfl, .nil _ _, .refl _⟩ ?_)
    rintro n _ H2 ⟨k, v, rfl, hk, rfl, hO, hE2⟩
    have b2 := b.ext hE2
    refine L_reg [0, 1, 6, 8, 9, 22] (fun K hK => ?_)
    simp [b2.l2]
    apply hK; clear hK K
    have hle := evS_len m s k
    refine L_dec ((k : Int) + 1 ≤ per m s) (by simp) (fun hlt => ?_) (fun hge => L_exit ?_)
    · refine L_block ?_
      have hsucc := evS_succ m s k
      have hdd := even_ac m s (k + 1) a1 a2 a3 (by omega) H2
      have hk1 : ((k + 1 : Nat) : Int) = (k : Int) + 1 := by omega
      rw [hk1] at hdd
      unfold WV at hdd
      refine L_reg [0, 1, 6, 8, 9, 29] (fun K hK => ?_)
      simp [okFn_low]
      refine hdd _ ?_
      simp
      apply hK; clear hK K
      refine L_dec ((widthsS m s (k + 1)).length ≤ 2) (by simp) (fun hd => ?_) (fun hd => ?_)
      · rw [if_pos hd] at hsucc
        obtain ⟨v', H3, happ, hO3, hE3⟩ := ownF_append hE2 el36 el36 (x := .int .i64 ((k : Int) + 1)) (m := 1) hO rfl (by simp; omega)
        refine L_reg [0, 1, 6, 8, 9] (fun K hK => ?_)
        simp [happ]
        apply hK; clear hK K
        refine L_reg [0, 1, 6, 8, 9] (fun K hK => ?_)
        simp [wrap_i64 (a := (k : Int) + 1 + 1) (by omega)]
        apply hK; clear hK K
        refine ⟨per m s - (k + 1), [v', .int .i64 ((k : Int) + 1 + 1)], by omega, by simp, k + 1, v', rfl, by omega, by simp, by rw [hsucc]; simpa using hO3, hE3⟩
      · rw [if_neg hd] at hsucc
        refine L_reg [0, 1, 6, 8, 9] (fun K hK => ?_)
        simp [wrap_i64 (a := (k : Int) + 1 + 1) (by omega)]
        apply hK; clear hK K
        refine ⟨per m s - (k + 1), [v, .int .i64 ((k : Int) + 1 + 1)], by omega, by simp, k + 1, v, rfl, by omega, by simp, by rw [hsucc]; exact hO, hE2⟩
    · have hk' : k = per m s := by omega
      refine L_reg [4, 5] (fun K hK => ?_)
      simp
      apply hK; clear hK K
      exact L_ret ⟨.inr rfl, _, rfl, h v H2 (by rw [← hk']; exact hO.mono (by omega)) (hE.trans hE2)⟩
  · simp only [if_neg h0] at h
    have hv : wholeV m s = WV 0 0 0 := by rw [wholeV, if_neg h0]
    refine L_reg [0, 1, 6, 7] (fun K hK => ?_)
    simp [okFn_low]
    refine whole_ac m s _ _ ?_
    simp [alloc_z zt23, hv, WV, newW]
    apply hK; clear hK K
    refine L_reg [0, 1, 6, 7, 17] (fun K hK => ?_)
    simp
    apply hK; clear hK K
    refine L_true (by simp [h0]) ?_
    refine L_reg [4, 5] (fun K hK => ?_)
    simp
    apply hK; clear hK K
    exact L_ret ⟨.inr rfl, _, rfl, h _ _ (.nil _ _) (.push _ _)⟩
end Go.Proofs.Ytjfmiohgkcjdnaa

/- The reference: wrappers are checked; turns and marks; turns around the circle, gaps, widths. -/
namespace Go.Proofs.Ytjfmiohgkcjdnaa
open Go Go.Proofs.Ytjfmiohgkcjdnaa.AX

theorem rin_ac (n lo hi : Int) (H : AH) (Q : AV → AH → Prop) (h : Q (.bool (decide (lo ≤ n ∧ n ≤ hi))) H) : AC Try.prog 61 [.int .i64 n, .int .i64 lo, .int .i64 hi] H Q := by
  refine L_body 15 Try.func61 rfl rfl ?_
  refine L_reg [0, 1, 2] (fun K hK => ?_)
  simp
  apply hK; clear hK K
  by_cases h1 : lo ≤ n
  · refine L_reg [6] (fun K hK => ?_)
    simp [pickV, h1]
    apply hK; clear hK K
    exact L_ret ⟨.inr rfl, _, rfl, by simpa [h1] using h⟩
  · refine L_reg [6] (fun K hK => ?_)
    simp [pickV, h1]
    apply hK; clear hK K
    exact L_ret ⟨.inr rfl, _, rfl, by simpa [h1] using h⟩
theorem rmark_ac0 (m s k : Nat) (t : Int) (hm : 0 < m) (hk : k * s ≤ 1000000) (H : AH) (Q : AV → AH → Prop) (h : ∀ H', Ext H H' → Q (.int .i64 (k * s % m : Nat)) H') : AC Try.prog 62 [WV m s t, .int .i64 k] H Q := by
  refine L_body 12 Try.func62 rfl rfl ?_
  refine L_reg [1, 2] (fun K hK => ?_)
  simp [AV.isU, acells, WV]
  apply hK; clear hK K
  obtain ⟨H1, e, hE, -, -, b⟩ := box3 H m s t
  rw [e]
  have hne : m ≠ 0 := by omega
  have hw : IntKind.i64.wrap ((k : Int) * s) = ((k * s : Nat) : Int) := by rw [wrap_i64] <;> push_cast <;> omega
  refine L_reg [4] (fun K hK => ?_)
  simp [b.l0, b.l1, hne, hw]
  apply hK; clear hK K
  have e2 : ((k : Int) * s).tmod m = ((k * s % m : Nat) : Int) := by rw [Int.tmod_eq_emod_of_nonneg (by omega)]; rfl
  have h2 := h _ hE
  rw [← e2] at h2
  exact L_ret ⟨.inr rfl, _, rfl, h2⟩
theorem rmark_ac (m s k : Nat) (t : Int) (hm : 0 < m) (hk : k * s ≤ 1000000) (H : AH) (Q : AV → AH → Prop) (h : Q (.int .i64 (k * s % m : Nat)) H) : AC Try.prog 62 [WV m s t, .int .i64 k] H Q :=
  AC.quiet (belB_int _ _ _ _) (fun Q h => rmark_ac0 m s k t hm hk H Q h) Q h
theorem rdiff_ac0 (m s : Nat) (t : Int) (h1 : 1 ≤ m) (h2 : m ≤ 100) (h3 : s < m) (H : AH) (Q : AV → AH → Prop) (h : ∀ H', Ext H H' → Q (.int .i64 (per m s : Nat)) H') : AC Try.prog 68 [WV m s t] H Q := by
  refine L_body 11 Try.func68 rfl rfl ?_
  refine L_reg [1] (fun K hK => ?_)
  simp [AV.isU, acells, WV]
  apply hK; clear hK K
  obtain ⟨H1, e, hE, -, -, b⟩ := box3 H m s t
  rw [e]
  refine L_reg [1, 3] (fun K hK => ?_)
  simp
  apply hK; clear hK K
  have hpm := per_le m s
  have hpp := per_pos (m := m) (s := s) (by omega)
  refine L_block (L_loopV [3] (fun n vs H' => ∃ k : Nat, n = per m s - k ∧ 1 ≤ k ∧ k ≤ per m s ∧ vs = [.int .i64 k] ∧ H1 = H') _ [.int .i64 1] rfl ⟨1, rfl, by omega, by omega, rfl, rfl⟩ ?_)
  rintro n _ _ ⟨k, rfl, hk1, hk, rfl, rfl⟩
  have hks : k * s ≤ 10000 := by
    calc k * s ≤ 100 * 100 := Nat.mul_le_mul (by omega) (by omega)
      _ ≤ 10000 := by decide
  have hpd := per_dvd (s := s) (k := k) (show 0 < m by omega)
  generalize hmk : k * s % m = mk at hpd
  refine L_reg [1, 3, 7] (fun K hK => ?_)
  simp [okFn_low, b.la]
  refine rmark_ac m s k t (by omega) (by omega) _ _ ?_
  simp [hmk]
  apply hK; clear hK K
  by_cases hkp : k = per m s
  · have h0 : mk = 0 := hpd.2 (by rw [hkp]; exact Nat.dvd_refl _)
    refine L_false (by simp [h0]) (L_exit ?_)
    refine L_reg [2] (fun K hK => ?_)
    simp
    apply hK; clear hK K
    exact L_ret ⟨.inr rfl, _, rfl, by rw [hkp]; exact h _ hE⟩
  · have h0 : mk ≠ 0 := fun h0 => by have := Nat.le_of_dvd (by omega) (hpd.1 h0); omega
    refine L_true (by simp [h0]) ?_
    refine L_block ?_
    refine L_reg [1, 3] (fun K hK => ?_)
    simp [wrap_i64 (a := (k : Int) + 1) (by omega)]
    apply hK; clear hK K
    exact ⟨per m s - (k + 1), [.int .i64 ((k + 1 : Nat) : Int)], by omega, by simp, k + 1, rfl, by omega, by omega, rfl, rfl⟩
theorem rdiff_ac (m s : Nat) (t : Int) (h1 : 1 ≤ m) (h2 : m ≤ 100) (h3 : s < m) (H : AH) (Q : AV → AH → Prop) (h : Q (.int .i64 (per m s : Nat)) H) : AC Try.prog 68 [WV m s t] H Q :=
  AC.quiet (belB_int _ _ _ _) (fun Q h => rdiff_ac0 m s t h1 h2 h3 H Q h) Q h
theorem rcircle_ac (m s : Int) (H : AH) (Q : AV → AH → Prop) (h : Q (.int .i64 (circleE m s)) H) : AC Try.prog 67 [.int .i64 m, .int .i64 s] H Q := by
  refine L_body 15 Try.func67 rfl rfl ?_
  refine L_reg [0, 1] (fun K hK => ?_)
  simp
  apply hK; clear hK K
  by_cases h1 : 1 ≤ m ∧ m ≤ 100
  · refine L_reg [14] (fun K hK => ?_)
    simp [okFn_low]
    refine rin_ac _ _ _ _ _ ?_
    simp [okFn_low, h1, wrap_i64 (a := m - 1) (by omega)]
    refine rin_ac _ _ _ _ _ ?_
    simp [pickV]
    apply hK; clear hK K
    by_cases h2 : 0 ≤ s ∧ s ≤ m - 1
    · refine L_false (by simp [h2]) ?_
      refine L_reg [4] (fun K hK => ?_)
      simp
      apply hK; clear hK K
      exact L_ret ⟨.inr rfl, _, rfl, by rw [circleE, if_neg (by omega)] at h; exact h⟩
    · refine L_true (by simp; omega) ?_
      refine L_reg [4] (fun K hK => ?_)
      simp
      apply hK; clear hK K
      exact L_ret ⟨.inr rfl, _, rfl, by rw [circleE, if_pos (by omega)] at h; exact h⟩
  · refine L_reg [14] (fun K hK => ?_)
    simp [okFn_low]
    refine rin_ac _ _ _ _ _ ?_
    simp [pickV, h1]
    apply hK; clear hK K
    refine L_true (by simp) ?_
    refine L_reg [4] (fun K hK => ?_)
    simp
    apply hK; clear hK K
    exact L_ret ⟨.inr rfl, _, rfl, by rw [circleE, if_pos (by omega)] at h; exact h⟩
def atI (m s w t : Nat) : Int := match atS m s w t 0 with | some k => k | none => -1
theorem rat_ac0 (m s t w : Nat) (h1 : 1 ≤ m) (h2 : m ≤ 100) (h3 : s < m) (h5 : t ≤ per m s) (H : AH) (Q : AV → AH → Prop) (h : ∀ H', Ext H H' → Q (.int .i64 (atI m s w t)) H') : AC Try.prog 65 [WV m s t, .int .i64 w] H Q := by
  refine L_body 18 Try.func65 rfl rfl ?_
  refine L_reg [1, 2] (fun K hK => ?_)
  simp [AV.isU, acells, WV]
  apply hK; clear hK K
  obtain ⟨H1, e, hE, -, -, b⟩ := box3 H m s t
  rw [e]
  refine L_reg [1, 2, 5] (fun K hK => ?_)
  simp
  apply hK; clear hK K
  have hpm := per_le m s
  unfold atI at h
  refine L_block (L_loopV [5] (fun n vs H' => ∃ k : Nat, n = t - k ∧ k ≤ t ∧ atS m s w (t - k) k = atS m s w t 0 ∧ vs = [.int .i64 k] ∧ H1 = H') _ [.int .i64 0] rfl ⟨0, rfl, by omega, rfl, rfl, rfl⟩ ?_)
  rintro n _ _ ⟨k, rfl, hk, ha, rfl, rfl⟩
  refine L_reg [1, 2, 5, 9] (fun K hK => ?_)
  simp [b.l2]
  apply hK; clear hK K
  refine L_dec (k < t) (by simp) (fun hlt => ?_) (fun hge => L_exit ?_)
  · refine L_block ?_
    have hks := bound (k := k) h2 h3 h5 (by omega)
    rw [show t - k = (t - (k + 1)) + 1 by omega, atS] at ha
    generalize hmk : k * s % m = mk at ha
    refine L_reg [1, 2, 5, 16] (fun K hK => ?_)
    simp [okFn_low, b.la]
    refine rmark_ac m s k t (by omega) (by omega) _ _ ?_
    simp [hmk]
    apply hK; clear hK K
    by_cases he : mk = w
    · refine L_true (by simp [he]) ?_
      rw [if_pos he] at ha
      refine L_reg [4] (fun K hK => ?_)
      simp
      apply hK; clear hK K
      exact L_ret ⟨.inr rfl, _, rfl, by rw [← ha] at h; exact h _ hE⟩
    · refine L_false (by simp; omega) ?_
      rw [if_neg he] at ha
      refine L_reg [1, 2, 5] (fun K hK => ?_)
      simp [wrap_i64 (a := (k : Int) + 1) (by omega)]
      apply hK; clear hK K
      exact ⟨t - (k + 1), [.int .i64 ((k + 1 : Nat) : Int)], by omega, by simp, k + 1, rfl, by omega, ha, rfl, rfl⟩
  · rw [show t - k = 0 by omega, atS] at ha
    refine L_reg [4] (fun K hK => ?_)
    simp
    apply hK; clear hK K
    exact L_ret ⟨.inr rfl, _, rfl, by rw [← ha] at h; exact h _ hE⟩
theorem rat_ac (m s t w : Nat) (h1 : 1 ≤ m) (h2 : m ≤ 100) (h3 : s < m) (h5 : t ≤ per m s) (H : AH) (Q : AV → AH → Prop) (h : Q (.int .i64 (atI m s w t)) H) : AC Try.prog 65 [WV m s t, .int .i64 w] H Q :=
  AC.quiet (belB_int _ _ _ _) (fun Q h => rat_ac0 m s t w h1 h2 h3 h5 H Q h) Q h
def rndP (m s t w : Nat) : List Int := ((List.range w).filterMap fun w => atS m s w t 0).map fun (x : Nat) => (x : Int)
theorem rndP_succ (m s t w : Nat) : rndP m s t (w + 1) = match atS m s w t 0 with | some k => rndP m s t w ++ [(k : Int)] | none => rndP m s t w := by
  unfold rndP
  rw [List.range_succ, List.filterMap_append, List.map_append]
  cases h : atS m s w t 0 with
  | none => simp [h]
  | some k => simp [h]
theorem rndP_len (m s t w : Nat) : (rndP m s t w).length ≤ w := by
  unfold rndP
  rw [List.length_map]
  have := List.length_filterMap_le (fun w => atS m s w t 0) (List.range w)
  simpa using this
theorem rround_ac (m s t : Nat) (h1 : 1 ≤ m) (h2 : m ≤ 100) (h3 : s < m) (h5 : t ≤ per m s) (H : AH) (Q : AV → AH → Prop) (h : ∀ v H', OwnF H.length H' v ((roundS m s t).map (.int .i64)) → Ext H H' → Q v H') : AC Try.prog 72 [WV m s t] H Q := by
  refine L_body 22 Try.func72 rfl rfl ?_
  refine L_reg [1] (fun K hK => ?_)
  simp [AV.isU, acells, WV]
  apply hK; clear hK K
  obtain ⟨H1, e, hE, -, -, b⟩ := box3 H m s t
  rw [e]
  refine L_reg [1, 3] (fun K hK => ?_)
  simp
  apply hK; clear hK K
  refine L_reg [1, 3, 4] (fun K hK => ?_)
  simp
  apply hK; clear hK K
  refine L_block (L_loopV [3, 4] (fun n vs H' => ∃ (w : Nat) (v : AV), n = m - w ∧ w ≤ m ∧ vs = [v, .int .i64 w] ∧ OwnF H1.length H' v ((rndP m s t w).map (.int .i64)) ∧ Ext H1 H') _ [.slice none 0 0 0 1 false, .int .i64 0] rfl ⟨0, _, rfl, by omega, rfl, .nil _ _, .refl _⟩ ?_)
  rintro n _ H2 ⟨w, v, rfl, hw, rfl, hO, hE2⟩
  have b2 := b.ext hE2
  refine L_reg [1, 3, 4, 8] (fun K hK => ?_)
  simp [b2.l0]
  apply hK; clear hK K
  refine L_dec (w < m) (by simp) (fun hlt => ?_) (fun hge => L_exit ?_)
  · refine L_block ?_
    have hsucc := rndP_succ m s t w
    have hle := rndP_len m s t w
    have hat := rat_ac m s t w h1 h2 h3 h5
    unfold atI at hat
    cases ha : atS m s w t 0 with
    | none =>
      rw [ha] at hsucc hat
      refine L_reg [1, 3, 4, 14] (fun K hK => ?_)
      simp [okFn_low, b2.la]
      refine hat _ _ ?_
      simp
      apply hK; clear hK K
      refine L_false (by simp) ?_
      refine L_reg [1, 3, 4] (fun K hK => ?_)
      simp [wrap_i64 (a := (w : Int) + 1) (by omega)]
      apply hK; clear hK K
      exact ⟨m - (w + 1), [v, .int .i64 ((w + 1 : Nat) : Int)], by omega, by simp, w + 1, v, rfl, by omega, rfl, by rw [hsucc]; exact hO, hE2⟩
    | some k =>
      rw [ha] at hsucc hat
      refine L_reg [1, 3, 4, 14] (fun K hK => ?_)
      simp [okFn_low, b2.la]
      refine hat _ _ ?_
      simp
      apply hK; clear hK K
      refine L_true (by simp) ?_
      obtain ⟨v', H3, happ, hO3, hE3⟩ := ownF_append hE2 el36 el36 (x := .int .i64 (k : Int)) (m := 1) hO rfl (by simp; omega)
      refine L_reg [1, 3, 4] (fun K hK => ?_)
      simp [okFn_low, b2.la]
      refine hat _ _ ?_
      simp [happ]
      apply hK; clear hK K
      refine L_reg [1, 3, 4] (fun K hK => ?_)
      simp [wrap_i64 (a := (w : Int) + 1) (by omega)]
      apply hK; clear hK K
      exact ⟨m - (w + 1), [v', .int .i64 ((w + 1 : Nat) : Int)], by omega, by simp, w + 1, v', rfl, by omega, rfl, by rw [hsucc]; simpa using hO3, hE3⟩
  · have hw' : w = m := by omega
    subst hw'
    refine L_reg [2] (fun K hK => ?_)
    simp
    apply hK; clear hK K
    exact L_ret ⟨.inr rfl, _, rfl, h v H2 (hO.mono hE.1) (hE.trans hE2)⟩
theorem gapL_get (m : Nat) : ∀ (l : List Nat) (i : Nat), i < l.length → (gapL m l)[i]? = some (((l.getD (i + 1) m : Nat) : Int) - (l.getD i 0 : Nat))
  | [], i, h => by simp at h
  | w :: ws, 0, _ => by cases ws <;> simp [gapL]
  | w :: ws, i + 1, h => by
    have := gapL_get m ws i (by simpa using h)
    simpa [gapL] using this
theorem rgaps_ac (m s t : Nat) (h1 : 1 ≤ m) (h2 : m ≤ 100) (h3 : s < m) (h5 : t ≤ per m s) (H : AH) (Q : AV → AH → Prop) (h : ∀ v H', OwnF H.length H' v ((gapsS m s t).map (.int .i64)) → Ext H H' → Q v H') : AC Try.prog 74 [WV m s t] H Q := by
  refine L_body 41 Try.func74 rfl rfl ?_
  refine L_reg [1] (fun K hK => ?_)
  simp [AV.isU, acells, WV]
  apply hK; clear hK K
  obtain ⟨H1, e, hE, -, -, b⟩ := box3 H m s t
  rw [e]
  refine L_reg [1, 3] (fun K hK => ?_)
  simp [okFn_low, b.la]
  refine rround_ac m s t h1 h2 h3 h5 _ _ (fun v H2 hO hE2 => ?_)
  simp
  apply hK; clear hK K
  have b2 := b.ext hE2
  have hpm := per_le m s
  have hl := roundS_len (show 0 < m by omega) h5
  have hgl := gapsS_len (m := m) (s := s) (show 0 < m by omega) h5
  have hLs : Ls H2 v (roundS m s t) := hO.own.ls
  have hget : ∀ i, i < t → ∃ k : Nat, k < t ∧ (roundS m s t)[i]? = some (k : Int) ∧ mkR m s t i = k * s % m := fun i hi => by
    obtain ⟨k, hk, e⟩ := (mem_roundS (m := m) (s := s) (by omega) h5).1 (List.getElem_mem (l := roundS m s t) (n := i) (by omega))
    have e2 : (roundS m s t)[i]? = some (k : Int) := by rw [List.getElem?_eq_getElem (by omega), e]
    exact ⟨k, hk, e2, mkR_some e2⟩
  have hgg : ∀ i, i < t → (gapsS m s t)[i]? = some (((if i + 1 < t then mkR m s t (i + 1) else m : Nat) : Int) - (mkR m s t i : Nat)) := fun i hi => by
    unfold gapsS
    rw [gapL_get m _ i (by simp; omega)]
    congr 2
    · by_cases h : i + 1 < t
      · rw [if_pos h, mkR_get (by omega), List.getD_eq_getElem?_getD, List.getElem?_map, List.getElem?_eq_getElem (by omega)]; rfl
      · rw [if_neg h, List.getD_eq_getElem?_getD, List.getElem?_eq_none (by simp; omega)]; rfl
    · rw [mkR_get (by omega), List.getD_eq_getElem?_getD, List.getElem?_map, List.getElem?_eq_getElem (by omega)]; rfl
  generalize roundS m s t = L at *
  generalize gapsS m s t = G at *
  refine L_reg [1, 3, 4] (fun K hK => ?_)
  simp
  apply hK; clear hK K
  refine L_reg [1, 3, 4, 5] (fun K hK => ?_)
  simp
  apply hK; clear hK K
  refine L_block (L_loopV [4, 5] (fun n vs H' => ∃ (i : Nat) (u : AV), n = t - i ∧ i ≤ t ∧ vs = [u, .int .i64 i] ∧ OwnF H2.length H' u ((G.take i).map (.int .i64)) ∧ Ext H2 H') _ [.slice none 0 0 0 1 false, .int .i64 0] rfl ⟨0, _, rfl, by omega, rfl, .nil _ _, .refl _⟩ ?_)
  rintro n _ H3 ⟨i, u, rfl, hi, rfl, hO3, hE3⟩
  have b3 := b2.ext hE3
  obtain ⟨r, off, ver, sz, full, rfl, hld⟩ := hLs.ext hE3
  refine L_reg [1, 3, 4, 5, 12] (fun K hK => ?_)
  simp [hl]
  apply hK; clear hK K
  refine L_dec (i < t) (by simp) (fun hlt => ?_) (fun hge => L_exit ?_)
  · refine L_block ?_
    obtain ⟨k, hk, ek, em⟩ := hget i hlt
    obtain ⟨r', rfl, rfl, hrd⟩ := hld i (by omega)
    have eki : L[i] = (k : Int) := by rw [List.getElem?_eq_getElem (by omega)] at ek; exact Option.some.inj ek
    rw [eki] at hrd
    have hgi := hgg i hlt
    have hmr := mkR_max (s := s) (t := t) (i := i) (show 0 < m by omega)
    have hmr2 := mkR_max (s := s) (t := t) (i := i + 1) (show 0 < m by omega)
    rw [em] at hgi hmr
    have hks := bound (k := k) h2 h3 h5 (by omega)
    have fin : ∀ (x : Nat), (if i + 1 < t then mkR m s t (i + 1) else m) = x → x ≤ 100 → G.take (i + 1) = G.take i ++ [(x : Int) - (k * s % m : Nat)] := fun x hx _ => by
      rw [hx] at hgi
      rw [List.take_add_one, hgi]; rfl
    refine L_reg [1, 3, 4, 5, 6] (fun K hK => ?_)
    simp [b3.l0]
    apply hK; clear hK K
    refine L_reg [1, 3, 4, 5, 6, 21] (fun K hK => ?_)
    simp [wrap_i64 (a := (i : Int) + 1) (by omega)]
    apply hK; clear hK K
    generalize hmk : k * s % m = mk at *
    by_cases hlt2 : i + 1 < t
    · obtain ⟨k2, hk2, ek2, em2⟩ := hget (i + 1) hlt2
      obtain ⟨r', hr', -, hrd2⟩ := hld (i + 1) (by omega)
      cases hr'
      have eki2 : L[i + 1] = (k2 : Int) := by rw [List.getElem?_eq_getElem (by omega)] at ek2; exact Option.some.inj ek2
      rw [eki2] at hrd2
      have hks2 := bound (k := k2) h2 h3 h5 (by omega)
      have fin := fin (k2 * s % m) (by rw [if_pos hlt2, em2]) (by omega)
      rw [em2] at hmr2
      generalize hmk2 : k2 * s % m = mk2 at *
      refine L_dec (i + 1 < t) (by simp; omega) (fun _ => ?_) (fun hh => absurd hlt2 hh)
      refine L_regQ mixed [1, 3, 4, 5, 6] (by kernel_rfl) (fun K hK => ?_)
      simp [okFn_low, b3.la, wrap_i64 (a := (i : Int) + 1) (by omega), hrd2, show (0 : Int) ≤ (i : Int) + 1 by omega, show (i : Int) + 1 < t by omega, show ((i : Int) + 1).toNat = i + 1 by omega]
      refine exQ_mk (fun Q hQ => rmark_ac m s k2 t (by omega) (by omega) H3 Q hQ) ?_
      simp [hmk2]
      apply hK; clear hK K
      obtain ⟨v', H4, happ, hO4, hE4⟩ := ownF_append hE3 el36 el36 (x := .int .i64 ((mk2 : Int) - (mk : Nat))) (m := 1) hO3 rfl (by simp; omega)
      refine L_regT mixed [1, 3, 4, 5] (by kernel_rfl) (fun K hK => ?_)
      simp [okFn_low, b3.la, hrd, hlt]
      refine exC_mk (fun Q hQ => rmark_ac m s k t (by omega) (by omega) H3 Q hQ) ?_
      simp [hmk, wrap_i64 (a := (mk2 : Int) - (mk : Nat)) (by omega), happ]
      apply hK; clear hK K
      refine L_reg [1, 3, 4, 5] (fun K hK => ?_)
      simp [wrap_i64 (a := (i : Int) + 1) (by omega)]
      apply hK; clear hK K
      exact ⟨t - (i + 1), [v', .int .i64 ((i + 1 : Nat) : Int)], by omega, by simp [hl], i + 1, v', rfl, by omega, rfl, by rw [fin]; simpa using hO4, hE4⟩
    · refine L_dec (i + 1 < t) (by simp; omega) (fun hh => absurd hh hlt2) (fun _ => ?_)
      have fin := fin m (by rw [if_neg hlt2]) (by omega)
      obtain ⟨v', H4, happ, hO4, hE4⟩ := ownF_append hE3 el36 el36 (x := .int .i64 ((m : Int) - (mk : Nat))) (m := 1) hO3 rfl (by simp; omega)
      refine L_regT mixed [1, 3, 4, 5] (by kernel_rfl) (fun K hK => ?_)
      simp [okFn_low, b3.la, hrd, hlt]
      refine exC_mk (fun Q hQ => rmark_ac m s k t (by omega) (by omega) H3 Q hQ) ?_
      simp [hmk, wrap_i64 (a := (m : Int) - (mk : Nat)) (by omega), happ]
      apply hK; clear hK K
      refine L_reg [1, 3, 4, 5] (fun K hK => ?_)
      simp [wrap_i64 (a := (i : Int) + 1) (by omega)]
      apply hK; clear hK K
      exact ⟨t - (i + 1), [v', .int .i64 ((i + 1 : Nat) : Int)], by omega, by simp [hl], i + 1, v', rfl, by omega, rfl, by rw [fin]; simpa using hO4, hE4⟩
  · have hi' : i = t := by omega
    refine L_reg [2] (fun K hK => ?_)
    simp
    apply hK; clear hK K
    have : G.take i = G := by rw [List.take_of_length_le (by omega)]
    rw [this] at hO3
    exact L_ret ⟨.inr rfl, _, rfl, h u H3 (hO3.mono (by have := hE.1; have := hE2.1; omega)) (hE.trans (hE2.trans hE3))⟩
end Go.Proofs.Ytjfmiohgkcjdnaa

/- The reference: widths, turns beside, and what is answered. -/
namespace Go.Proofs.Ytjfmiohgkcjdnaa
open Go Go.Proofs.Ytjfmiohgkcjdnaa.AX

theorem widN_one {L : List Int} (h : ∀ x ∈ L, 1 ≤ x) : widN L 1 = [] := by
  have h0 : L.count ((0 : Nat) : Int) = 0 := List.count_eq_zero.2 fun hm => by have := h _ hm; omega
  rw [widN_succ, h0]
  simp [widN]
theorem widN_stop {L : List Int} {m : Nat} (h : ∀ x ∈ L, x ≤ (m : Int)) : ∀ d, widN L (m + 1 + d) = widN L (m + 1)
  | 0 => rfl
  | d + 1 => by
    have h0 : L.count ((m + 1 + d : Nat) : Int) = 0 := List.count_eq_zero.2 fun hm => by have := h _ hm; omega
    rw [show m + 1 + (d + 1) = (m + 1 + d) + 1 by omega, widN_succ, h0, if_neg (by omega), widN_stop h d]
theorem rwidths_ac (m s t : Nat) (h1 : 1 ≤ m) (h2 : m ≤ 100) (h3 : s < m) (h5 : t ≤ per m s) (H : AH) (Q : AV → AH → Prop) (h : ∀ v H', OwnK 2 H.length H' v (prs (widthsS m s t)) → Ext H H' → Q v H') : AC Try.prog 76 [WV m s t] H Q := by
  refine L_body 39 Try.func76 rfl rfl ?_
  refine L_reg [1] (fun K hK => ?_)
  simp [AV.isU, acells, WV]
  apply hK; clear hK K
  obtain ⟨H1, e, hE, -, -, b⟩ := box3 H m s t
  rw [e]
  refine L_reg [1, 3] (fun K hK => ?_)
  simp
  apply hK; clear hK K
  refine L_reg [1, 3, 4] (fun K hK => ?_)
  simp [okFn_low, b.la]
  refine rgaps_ac m s t h1 h2 h3 h5 _ _ (fun v H2 hO hE2 => ?_)
  simp
  apply hK; clear hK K
  have b2 := b.ext hE2
  have hpm := per_le m s
  have hgl := gapsS_len (m := m) (s := s) (show 0 < m by omega) h5
  have hG := gapsS_bound (m := m) (s := s) (t := t)
  have hLs : Ls H2 v (gapsS m s t) := hO.own.ls
  have hw1 := widN_one (fun x hx => (hG x hx).1)
  have hw2 := widN_stop (m := m) (fun x hx => (hG x hx).2) (100 - m)
  rw [show m + 1 + (100 - m) = 101 by omega] at hw2
  unfold widthsS at h
  generalize gapsS m s t = G at *
  refine L_reg [1, 3, 4, 5] (fun K hK => ?_)
  simp
  apply hK; clear hK K
  refine L_block (L_loopV [3, 5] (fun n vs H' => ∃ (w : Nat) (u : AV), n = m + 1 - w ∧ 1 ≤ w ∧ w ≤ m + 1 ∧ vs = [u, .int .i64 w] ∧ OwnK 2 H2.length H' u (prs (widN G w)) ∧ Ext H2 H') _ [.slice none 0 0 0 1 false, .int .i64 1] rfl ⟨1, _, rfl, by omega, by omega, rfl, by rw [hw1]; exact OwnK.nil _ _ _, .refl _⟩ ?_)
  rintro n _ H3 ⟨w, u, rfl, hw, hwm, rfl, hO3, hE3⟩
  have b3 := b2.ext hE3
  obtain ⟨r, off, ver, sz, full, rfl, hld⟩ := hLs.ext hE3
  refine L_reg [1, 3, 4, 5, 13] (fun K hK => ?_)
  simp [b3.l0]
  apply hK; clear hK K
  refine L_dec (w ≤ m) (by simp) (fun hlt => ?_) (fun hge => L_exit ?_)
  · refine L_block ?_
    refine L_reg [1, 3, 4, 5, 6] (fun K hK => ?_)
    simp
    apply hK; clear hK K
    refine L_reg [1, 3, 4, 5, 6, 7] (fun K hK => ?_)
    simp
    apply hK; clear hK K
    have hcl : ∀ i, (G.take i).count (w : Int) ≤ i := fun i => Nat.le_trans List.count_le_length (by simp; omega)
    refine L_block (L_loopV [6, 7] (fun n vs H' => ∃ i : Nat, n = t - i ∧ i ≤ t ∧ vs = [.int .i64 ((G.take i).count (w : Int) : Nat), .int .i64 i] ∧ H3 = H') _ [.int .i64 0, .int .i64 0] rfl ⟨0, rfl, by omega, by simp, rfl⟩ ?_)
    rintro n _ _ ⟨i, rfl, hi, rfl, rfl⟩
    refine L_reg [1, 3, 4, 5, 6, 7, 19] (fun K hK => ?_)
    simp [hgl]
    apply hK; clear hK K
    have hci := hcl i
    refine L_dec (i < t) (by simp) (fun hlt2 => ?_) (fun hge2 => L_exit ?_)
    · refine L_block ?_
      obtain ⟨r', rfl, rfl, hrd⟩ := hld i (by omega)
      have hsu : (G.take (i + 1)).count (w : Int) = (G.take i).count (w : Int) + (if G[i] = (w : Int) then 1 else 0) := by
        rw [List.take_add_one, List.getElem?_eq_getElem (by omega), List.count_append]
        by_cases e : G[i] = (w : Int)
        · simp [e]
        · simp [e]
      generalize G[i]'(by omega) = x at hrd hsu
      generalize hc2 : (G.take (i + 1)).count (w : Int) = c2 at hsu
      generalize (G.take i).count (w : Int) = c1 at hsu hci
      refine L_reg [1, 3, 4, 5, 6, 7, 27] (fun K hK => ?_)
      simp [hrd, hlt2]
      apply hK; clear hK K
      by_cases he : x = w
      · refine L_true (by simp [he]) ?_
        rw [if_pos he] at hsu
        refine L_reg [1, 3, 4, 5, 6, 7] (fun K hK => ?_)
        simp [wrap_i64 (a := (c1 : Int) + 1) (by omega)]
        apply hK; clear hK K
        refine L_reg [1, 3, 4, 5, 6, 7] (fun K hK => ?_)
        simp [wrap_i64 (a := (i : Int) + 1) (by omega)]
        apply hK; clear hK K
        exact ⟨t - (i + 1), [.int .i64 ((c1 : Int) + 1), .int .i64 ((i + 1 : Nat) : Int)], by omega, by simp [hgl], i + 1, rfl, by omega, by rw [hc2, hsu]; rfl, rfl⟩
      · refine L_false (by simp [he]) ?_
        rw [if_neg he] at hsu
        refine L_reg [1, 3, 4, 5, 6, 7] (fun K hK => ?_)
        simp [wrap_i64 (a := (i : Int) + 1) (by omega)]
        apply hK; clear hK K
        exact ⟨t - (i + 1), [.int .i64 (c1 : Int), .int .i64 ((i + 1 : Nat) : Int)], by omega, by simp [hgl], i + 1, rfl, by omega, by rw [hc2, hsu]; rfl, rfl⟩
    · have hi' : i = t := by omega
      have hG2 : G.take i = G := by rw [List.take_of_length_le (by omega)]
      rw [hG2]
      rw [hG2] at hci
      have hsucc := widN_succ G w
      have hwl := widN_le G w
      generalize G.count (w : Int) = cc at hsucc hci
      refine L_reg [1, 3, 4, 5, 6, 31] (fun K hK => ?_)
      simp
      apply hK; clear hK K
      refine L_dec (0 < cc) (by simp) (fun hpos => ?_) (fun hpos => ?_)
      · rw [if_pos hpos] at hsucc
        obtain ⟨v', H6, happ, hO6, hE6⟩ := ownK_append hE3 elk40 elk40 (x := [.int .i64 w, .int .i64 cc]) (m := 2) hO3 rfl (by simp [AV.one]) (by simp [prs]; omega)
        refine L_reg [1, 3, 4, 5] (fun K hK => ?_)
        simp [happ]
        apply hK; clear hK K
        refine L_reg [1, 3, 4, 5] (fun K hK => ?_)
        simp [wrap_i64 (a := (w : Int) + 1) (by omega)]
        apply hK; clear hK K
        refine ⟨m + 1 - (w + 1), [v', .int .i64 ((w + 1 : Nat) : Int)], by omega, by simp [hgl], w + 1, v', rfl, by omega, by omega, rfl, ?_, hE6⟩
        rw [hsucc]
        simpa [prs] using hO6
      · rw [if_neg hpos] at hsucc
        refine L_reg [1, 3, 4, 5] (fun K hK => ?_)
        simp [wrap_i64 (a := (w : Int) + 1) (by omega)]
        apply hK; clear hK K
        exact ⟨m + 1 - (w + 1), [u, .int .i64 ((w + 1 : Nat) : Int)], by omega, by simp [hgl], w + 1, u, rfl, by omega, by omega, rfl, by rw [hsucc]; exact hO3, hE3⟩
  · have hw' : w = m + 1 := by omega
    subst hw'
    rw [hw2] at h
    refine L_reg [2] (fun K hK => ?_)
    simp
    apply hK; clear hK K
    exact L_ret ⟨.inr rfl, _, rfl, h u H3 ⟨hO3.1, hO3.2.imp id fun ⟨r, ver, st, g1, g2⟩ => ⟨r, ver, st, by have := hE.1; have := hE2.1; omega, g2⟩⟩ (hE.trans (hE2.trans hE3))⟩
theorem rCheck_ac0 (m s t : Int) (H : AH) (Q : AV → AH → Prop) (h : ∀ H', Ext H H' → Q (.int .i64 (checkE m s t)) H') : AC Try.prog 21 [WV m s t] H Q := by
  refine L_body 26 Try.func21 rfl rfl ?_
  refine L_reg [1] (fun K hK => ?_)
  simp [AV.isU, acells, WV]
  apply hK; clear hK K
  obtain ⟨H1, e, hE, -, -, b⟩ := box3 H m s t
  rw [e]
  refine L_reg [1, 3] (fun K hK => ?_)
  simp [okFn_low, b.l0, b.l1]
  refine rcircle_ac m s _ _ ?_
  simp
  apply hK; clear hK K
  by_cases h0 : circleE m s = 0
  · obtain ⟨m, s, rfl, rfl, a1, a2, a3⟩ := circleE_zero h0
    by_cases h1 : t < 1
    · refine L_reg [1, 3, 15] (fun K hK => ?_)
      simp [b.l2, pickV, h0, h1]
      apply hK; clear hK K
      refine L_true (by simp) ?_
      refine L_reg [1, 3] (fun K hK => ?_)
      simp
      apply hK; clear hK K
      refine L_regQ mixed [3, 24] (by kernel_rfl) (fun K hK => ?_)
      simp [pickV]
      apply hK; clear hK K
      refine L_false (by simp) ?_
      refine L_reg [2] (fun K hK => ?_)
      simp
      apply hK; clear hK K
      exact L_ret ⟨.inr rfl, _, rfl, by simpa [checkE, h1] using h _ hE⟩
    · refine L_reg [1, 3, 15] (fun K hK => ?_)
      simp [b.l2, pickV, h0, h1]
      apply hK; clear hK K
      refine L_false (by simp) ?_
      refine L_regQ mixed [3, 24] (by kernel_rfl) (fun K hK => ?_)
      simp [okFn_low, b.l2, b.la]
      refine exQ_mk (fun Q hQ => rdiff_ac m s t (by omega) (by omega) (by omega) H1 Q hQ) ?_
      simp [pickV]
      apply hK; clear hK K
      by_cases h2 : (per m s : Int) < t
      · refine L_true (by simp [h2]) ?_
        refine L_reg [3] (fun K hK => ?_)
        simp
        apply hK; clear hK K
        refine L_reg [2] (fun K hK => ?_)
        simp
        apply hK; clear hK K
        exact L_ret ⟨.inr rfl, _, rfl, by have h3 := h _ hE; rw [checkE, if_neg (by omega), if_pos (by simpa using h2)] at h3; exact h3⟩
      · refine L_false (by simp; omega) ?_
        refine L_reg [2] (fun K hK => ?_)
        simp
        apply hK; clear hK K
        exact L_ret ⟨.inr rfl, _, rfl, by have h3 := h _ hE; rw [checkE, if_neg (by omega), if_neg (by simpa using h2)] at h3; simpa [h0] using h3⟩
  · have hb : (circleE m s == 0) = false := by simpa using h0
    refine L_reg [1, 3, 15] (fun K hK => ?_)
    simp [pickV, hb]
    apply hK; clear hK K
    refine L_false (by simp) ?_
    refine L_regQ mixed [3, 24] (by kernel_rfl) (fun K hK => ?_)
    simp [pickV, hb]
    apply hK; clear hK K
    refine L_false (by simp) ?_
    refine L_reg [2] (fun K hK => ?_)
    simp
    apply hK; clear hK K
    have hc : checkE m s t = circleE m s := by
      unfold circleE at h0 ⊢
      split at h0
      · rename_i h1; rw [checkE, if_pos (by omega), if_pos h1]
      · exact absurd rfl h0
    exact L_ret ⟨.inr rfl, _, rfl, by rw [← hc]; exact h _ hE⟩
theorem rCheck_ac (m s t : Int) (H : AH) (Q : AV → AH → Prop) (h : Q (.int .i64 (checkE m s t)) H) : AC Try.prog 21 [WV m s t] H Q :=
  AC.quiet (belB_int _ _ _ _) (fun Q h => rCheck_ac0 m s t H Q h) Q h
theorem rMark_ac0 (m s t k : Int) (H : AH) (Q : AV → AH → Prop) (h : ∀ H', Ext H H' → Q (.tuple [.int .i64 (markS m s t k).1, .int .i64 (markS m s t k).2]) H') : AC Try.prog 17 [WV m s t, .int .i64 k] H Q := by
  refine L_body 25 Try.func17 rfl rfl ?_
  refine L_reg [1, 2] (fun K hK => ?_)
  simp [AV.isU, acells, WV]
  apply hK; clear hK K
  obtain ⟨H1, e, hE, -, -, b⟩ := box3 H m s t
  rw [e]
  refine L_reg [1, 2, 6] (fun K hK => ?_)
  simp [okFn_low, b.la]
  refine rCheck_ac m s t _ _ ?_
  simp
  apply hK; clear hK K
  by_cases h0 : checkE m s t = 0
  · obtain ⟨m, s, t, rfl, rfl, rfl, a1, a2, a3, a4, a5⟩ := checkE_zero h0
    have hpm := per_le m s
    refine L_reg [1, 2, 6, 18] (fun K hK => ?_)
    simp [okFn_low, b.l2, h0, wrap_i64 (a := (t : Int) - 1) (by omega)]
    refine rin_ac _ _ _ _ _ ?_
    simp [pickV]
    apply hK; clear hK K
    by_cases h1 : 0 ≤ k ∧ k ≤ (t : Int) - 1
    · refine L_false (by simp [h1]) ?_
      refine L_reg [1, 2, 6, 20] (fun K hK => ?_)
      simp
      apply hK; clear hK K
      refine L_false (by simp) ?_
      obtain ⟨k, rfl⟩ : ∃ k' : Nat, k = k' := ⟨k.toNat, by omega⟩
      have h2 : turnE m s t k = 0 := by rw [turnE, if_pos h0, if_pos (by omega)]
      have := bound a2 a3 a5 (show k ≤ t by omega)
      refine L_reg [4, 5] (fun K hK => ?_)
      simp [okFn_low, b.la]
      refine rmark_ac m s k t (by omega) (by omega) _ _ ?_
      simp
      apply hK; clear hK K
      exact L_ret ⟨.inr rfl, _, rfl, by simpa [markS, h2] using h _ hE⟩
    · refine L_true (by simp; omega) ?_
      refine L_reg [1, 2, 6] (fun K hK => ?_)
      simp
      apply hK; clear hK K
      refine L_reg [1, 2, 6, 20] (fun K hK => ?_)
      simp
      apply hK; clear hK K
      refine L_true (by simp) ?_
      refine L_reg [4, 5] (fun K hK => ?_)
      simp
      apply hK; clear hK K
      have h2 : turnE m s t k = 2 := by rw [turnE, if_pos h0, if_neg (by omega)]
      exact L_ret ⟨.inr rfl, _, rfl, by simpa [markS, h2] using h _ hE⟩
  · have hb : (checkE m s t == 0) = false := by simpa using h0
    refine L_reg [1, 2, 6, 18] (fun K hK => ?_)
    simp [pickV, hb]
    apply hK; clear hK K
    refine L_false (by simp) ?_
    refine L_reg [1, 2, 6, 20] (fun K hK => ?_)
    simp
    apply hK; clear hK K
    refine L_true (by simp [h0]) ?_
    refine L_reg [4, 5] (fun K hK => ?_)
    simp
    apply hK; clear hK K
    have h2 : turnE m s t k = checkE m s t := by rw [turnE, if_neg h0]
    exact L_ret ⟨.inr rfl, _, rfl, by simpa [markS, h2, h0] using h _ hE⟩
theorem rMark_ac (m s t k : Int) (H : AH) (Q : AV → AH → Prop) (h : Q (.tuple [.int .i64 (markS m s t k).1, .int .i64 (markS m s t k).2]) H) : AC Try.prog 17 [WV m s t, .int .i64 k] H Q :=
  AC.quiet (by simp [belB]) (fun Q h => rMark_ac0 m s t k H Q h) Q h
theorem firstS_at (m s w : Nat) : ∀ n k, firstS m s w w n k = match atS m s w n k with | some x => ((x : Int), 0) | none => (0, 12)
  | 0, k => rfl
  | n + 1, k => by
    rw [firstS, atS]
    by_cases h : k * s % m = w
    · rw [if_pos (by omega), if_pos h]
    · rw [if_neg (by omega), if_neg h, firstS_at m s w n (k + 1)]
theorem rWhich_ac0 (m s t k : Int) (H : AH) (Q : AV → AH → Prop) (h : ∀ H', Ext H H' → Q (.tuple [.int .i64 (whichS m s t k).1, .int .i64 (whichS m s t k).2]) H') : AC Try.prog 19 [WV m s t, .int .i64 k] H Q := by
  refine L_body 33 Try.func19 rfl rfl ?_
  refine L_reg [1, 2] (fun K hK => ?_)
  simp [AV.isU, acells, WV]
  apply hK; clear hK K
  obtain ⟨H1, e, hE, -, -, b⟩ := box3 H m s t
  rw [e]
  refine L_reg [1, 2, 6] (fun K hK => ?_)
  simp [okFn_low, b.la]
  refine rCheck_ac m s t _ _ ?_
  simp
  apply hK; clear hK K
  by_cases h0 : checkE m s t = 0
  · obtain ⟨m, s, t, rfl, rfl, rfl, a1, a2, a3, a4, a5⟩ := checkE_zero h0
    refine L_reg [1, 2, 6, 18] (fun K hK => ?_)
    simp [okFn_low, b.l0, h0, wrap_i64 (a := (m : Int) - 1) (by omega)]
    refine rin_ac _ _ _ _ _ ?_
    simp [pickV]
    apply hK; clear hK K
    by_cases h1 : 0 ≤ k ∧ k ≤ (m : Int) - 1
    · refine L_false (by simp [h1]) ?_
      obtain ⟨k, rfl⟩ : ∃ k' : Nat, k = k' := ⟨k.toNat, by omega⟩
      have hat := rat_ac m s t k a1 a2 a3 a5 H1
      have hw : whichS m s t k = firstS m s k k t 0 := by rw [whichS, if_pos h0, if_pos (by omega)]; rfl
      rw [firstS_at] at hw
      rw [hw] at h
      unfold atI at hat
      cases ha : atS m s k t 0 with
      | none =>
        rw [ha] at h hat
        refine L_reg [1, 2, 6, 26] (fun K hK => ?_)
        simp [okFn_low, b.la]
        refine hat _ ?_
        simp [pickV]
        apply hK; clear hK K
        refine L_true (by simp) ?_
        refine L_reg [1, 2, 6] (fun K hK => ?_)
        simp
        apply hK; clear hK K
        refine L_reg [1, 2, 6, 28] (fun K hK => ?_)
        simp
        apply hK; clear hK K
        refine L_true (by simp) ?_
        refine L_reg [4, 5] (fun K hK => ?_)
        simp
        apply hK; clear hK K
        exact L_ret ⟨.inr rfl, _, rfl, h _ hE⟩
      | some x =>
        rw [ha] at h hat
        refine L_reg [1, 2, 6, 26] (fun K hK => ?_)
        simp [okFn_low, b.la]
        refine hat _ ?_
        simp [pickV]
        apply hK; clear hK K
        refine L_false (by simp) ?_
        refine L_reg [1, 2, 6, 28] (fun K hK => ?_)
        simp
        apply hK; clear hK K
        refine L_false (by simp) ?_
        refine L_reg [4, 5] (fun K hK => ?_)
        simp [okFn_low, b.la]
        refine hat _ ?_
        simp
        apply hK; clear hK K
        exact L_ret ⟨.inr rfl, _, rfl, h _ hE⟩
    · refine L_true (by simp; omega) ?_
      refine L_reg [1, 2, 6] (fun K hK => ?_)
      simp
      apply hK; clear hK K
      refine L_reg [1, 2, 6, 26] (fun K hK => ?_)
      simp [pickV]
      apply hK; clear hK K
      refine L_false (by simp) ?_
      refine L_reg [1, 2, 6, 28] (fun K hK => ?_)
      simp
      apply hK; clear hK K
      refine L_true (by simp) ?_
      refine L_reg [4, 5] (fun K hK => ?_)
      simp
      apply hK; clear hK K
      have hw : whichS m s t k = (0, 2) := by rw [whichS, if_pos h0, if_neg (by omega)]
      exact L_ret ⟨.inr rfl, _, rfl, by simpa [hw] using h _ hE⟩
  · have hb : (checkE m s t == 0) = false := by simpa using h0
    refine L_reg [1, 2, 6, 18] (fun K hK => ?_)
    simp [pickV, hb]
    apply hK; clear hK K
    refine L_false (by simp) ?_
    refine L_reg [1, 2, 6, 26] (fun K hK => ?_)
    simp [pickV, hb]
    apply hK; clear hK K
    refine L_false (by simp) ?_
    refine L_reg [1, 2, 6, 28] (fun K hK => ?_)
    simp
    apply hK; clear hK K
    refine L_true (by simp [h0]) ?_
    refine L_reg [4, 5] (fun K hK => ?_)
    simp
    apply hK; clear hK K
    have hw : whichS m s t k = (0, checkE m s t) := by rw [whichS, if_neg h0]
    exact L_ret ⟨.inr rfl, _, rfl, by simpa [hw] using h _ hE⟩
theorem rWhich_ac (m s t k : Int) (H : AH) (Q : AV → AH → Prop) (h : Q (.tuple [.int .i64 (whichS m s t k).1, .int .i64 (whichS m s t k).2]) H) : AC Try.prog 19 [WV m s t, .int .i64 k] H Q :=
  AC.quiet (by simp [belB]) (fun Q h => rWhich_ac0 m s t k H Q h) Q h
end Go.Proofs.Ytjfmiohgkcjdnaa

/- WrapNearer, walked. -/
namespace Go.Proofs.Ytjfmiohgkcjdnaa
open Go Go.Proofs.Ytjfmiohgkcjdnaa.AX

set_option maxRecDepth 100000 in
theorem wrapNearer_ac (a b c : Nat) (ha : a < 256) (hb : b < 256) (hc : c < 256) (H : AH) : AC Try.prog 12 [.agg [.int .u8 a, .int .u8 b, .int .u8 c]] H fun u _ => u = .bool true := by
  refine L_body 80 Try.func12 rfl rfl ?_
  obtain ⟨H1, e, hE, hl1, r1, l0, l1, l2, la⟩ := box3u H a b c
  refine L_reg [1] (fun K hK => ?_)
  simp [AV.isU, acells]
  apply hK; clear hK K
  rw [e]
  have hm := mM_ok a
  have hs := mS_ok a b
  have ht := mT_ok a b c
  refine L_reg [3] (fun K hK => ?_)
  simp [okFn_low, la]
  refine made_ac a b c ha hb hc _ _ ?_
  generalize mM a = m at *
  generalize mS a b = s at *
  generalize mT a b c = t at *
  simp [alloc_z zt23, newW, WV]
  apply hK; clear hK K
  obtain ⟨H2, e2, hE2, hl2, r2, bx⟩ := box3 H1 m s t
  rw [e2]
  generalize hp : H1.length = p at *
  have hcz : circleE m s = 0 := by unfold circleE; rw [if_neg (by omega)]
  refine L_reg [3, 4, 5] (fun K hK => ?_)
  simp [okFn_low, bx.l0, bx.l1]
  refine Nearer_ac m s _ _ (fun v H3 hO hE3 => ?_)
  have hnR : nearR m s = (nrS m s (per m s)).1 := by unfold nearR; rw [if_pos hcz]; rfl
  rw [hnR] at hO
  rw [hcz]
  simp
  apply hK; clear hK K
  have bx3 := bx.ext hE3
  refine L_reg [3, 4, 5, 6] (fun K hK => ?_)
  simp [okFn_low, bx3.l0, bx3.l1]
  refine diff_ac m s hm.1 hm.2 hs _ _ ?_
  simp
  apply hK; clear hK K
  refine L_reg [3, 4, 5, 6, 7] (fun K hK => ?_)
  simp
  apply hK; clear hK K
  refine L_reg [3, 4, 5, 6, 7, 8] (fun K hK => ?_)
  simp [bx3.l0]
  apply hK; clear hK K
  refine L_reg [3, 4, 5, 6, 7, 8, 9] (fun K hK => ?_)
  simp
  apply hK; clear hK K
  refine L_reg [3, 4, 5, 6, 7, 8, 9, 10] (fun K hK => ?_)
  simp
  apply hK; clear hK K
  have hpm := per_le m s
  have hpp := per_pos (m := m) (s := s) (by omega)
  refine L_block (L_loopV [7, 8, 9, 10] (fun n vs H' => ∃ (k w : Nat) (u : AV), n = per m s - k ∧ k ≤ per m s ∧ w = k * s % m ∧ vs = [u, .int .i64 (nrS m s k).2, .int .i64 (w : Nat), .int .i64 ((k : Int) + 1)] ∧ OwnF H3.length H' u ((nrS m s k).1.map (.int .i64)) ∧ Ext H3 H') _ [.slice none 0 0 0 1 false, .int .i64 (m : Nat), .int .i64 0, .int .i64 1] rfl ⟨0, 0, _, rfl, by omega, by simp, by simp [nrS], .nil _ _, .refl _⟩ ?_)
  rintro n _ H4 ⟨k, w, u, rfl, hk, hwk, rfl, hO4, hE4⟩
  refine L_reg [3, 4, 5, 6, 7, 8, 9, 10, 31] (fun K hK => ?_)
  simp
  apply hK; clear hK K
  have hle := nrS_le (m := m) (s := s) k
  have bx4 := bx3.ext hE4
  refine L_dec ((k : Int) + 1 ≤ per m s) (by simp) (fun hlt => ?_) (fun hge => L_exit ?_)
  · refine L_block ?_
    have hsucc : nrS m s (k + 1) = if distN m s (k + 1) < (nrS m s k).2 then ((nrS m s k).1 ++ [((k + 1 : Nat) : Int)], distN m s (k + 1)) else nrS m s k := rfl
    have hk1 : ((k + 1 : Nat) : Int) = (k : Int) + 1 := by omega
    rw [hk1] at hsucc
    have hst := step_mark m s k
    have hml : w < m := by rw [hwk]; exact Nat.mod_lt _ (by omega)
    rw [← hwk] at hst
    have hml2 : (k + 1) * s % m < m := Nat.mod_lt _ (by omega)
    unfold distN at hsucc
    generalize hw2 : (k + 1) * s % m = w2 at *
    have hmne : m ≠ 0 := by omega
    have e2 : ((w : Int) + s).tmod m = ((w2 : Nat) : Int) := by
      rw [show (w : Int) + s = ((w + s : Nat) : Int) by omega, Int.tmod_eq_emod_of_nonneg (by omega), ← hst]; rfl
    have e3 : min (w2 : Int) ((m : Int) - w2) = ((min w2 (m - w2) : Nat) : Int) := by omega
    generalize min w2 (m - w2) = d at hsucc e3
    generalize hnr : nrS m s k = nn at hO4 hle hsucc
    obtain ⟨L, nr⟩ := nn
    simp only at hO4 hle hsucc
    refine L_reg [3, 4, 5, 6, 7, 8, 9, 10] (fun K hK => ?_)
    simp [bx4.l0, bx4.l1, wrap_i64 (a := (w : Int) + s) (by omega), hmne, e2]
    apply hK; clear hK K
    refine L_reg [3, 4, 5, 6, 7, 8, 9, 10, 11] (fun K hK => ?_)
    simp [bx4.l0, wrap_i64 (a := (m : Int) - w2) (by omega), e3]
    apply hK; clear hK K
    refine L_reg [3, 4, 5, 6, 7, 8, 9, 10, 11, 49] (fun K hK => ?_)
    simp
    apply hK; clear hK K
    refine L_dec (d < nr) (by simp) (fun hd => ?_) (fun hd => ?_)
    · rw [if_pos hd] at hsucc
      obtain ⟨v', H5, happ, hO5, hE5⟩ := ownF_append hE4 el36 el36 (x := .int .i64 ((k : Int) + 1)) (m := 1) hO4 rfl (by simp; omega)
      refine L_reg [3, 4, 5, 6, 7, 9, 10, 11] (fun K hK => ?_)
      simp [happ]
      apply hK; clear hK K
      refine L_reg [3, 4, 5, 6, 7, 8, 9, 10] (fun K hK => ?_)
      simp
      apply hK; clear hK K
      refine L_reg [3, 4, 5, 6, 7, 8, 9, 10] (fun K hK => ?_)
      simp [wrap_i64 (a := (k : Int) + 1 + 1) (by omega)]
      apply hK; clear hK K
      refine ⟨per m s - (k + 1), [v', .int .i64 d, .int .i64 w2, .int .i64 ((k : Int) + 1 + 1)], by omega, by simp, k + 1, w2, v', rfl, by omega, hw2.symm, by rw [hsucc]; simp, by rw [hsucc]; simpa using hO5, hE5⟩
    · rw [if_neg hd] at hsucc
      refine L_reg [3, 4, 5, 6, 7, 8, 9, 10] (fun K hK => ?_)
      simp [wrap_i64 (a := (k : Int) + 1 + 1) (by omega)]
      apply hK; clear hK K
      refine ⟨per m s - (k + 1), [u, .int .i64 nr, .int .i64 w2, .int .i64 ((k : Int) + 1 + 1)], by omega, by simp, k + 1, w2, u, rfl, by omega, hw2.symm, by rw [hsucc]; simp, by rw [hsucc]; exact hO4, hE4⟩
  · have hk' : k = per m s := by omega
    subst hk'
    obtain ⟨L, hL⟩ := nrS_last (m := m) (s := s) (by omega)
    have hv : Ls H4 v (nrS m s (per m s)).1 := (hO.own.ls).ext hE4
    have hu : Ls H4 u (nrS m s (per m s)).1 := hO4.own.ls
    rw [hL] at hv hu hle
    have hlen : (L ++ [((per m s : Nat) : Int)]).length = L.length + 1 := by simp
    obtain ⟨r, off, ver, sz, full, hve, hld⟩ := id hv
    subst hve
    obtain ⟨r', rfl, rfl, hrd⟩ := hld L.length (by simp)
    rw [hlen] at hv hle ⊢
    have hrd2 : ld H4 r' (off + L.length) ver = some (.int .i64 (per m s : Nat)) := by simpa using hrd
    clear hrd hld hO
    generalize hPP : L ++ [((per m s : Nat) : Int)] = PP at hv hu hle
    refine L_reg [2] (fun K hK => ?_)
    simp [okFn_low]
    refine same_ac _ _ _ _ H4 _ (by rw [← hPP]; omega) hv hu ?_
    simp [pickV, okFn_low, wrap_i64 (a := (L.length : Int)) (by omega), hrd2, show (L.length : Int) < (L.length : Int) + 1 by omega]
    refine works_ac _ _ ?_
    simp [pickV]
    apply hK; clear hK K
    exact L_ret ⟨.inr rfl, _, rfl, rfl⟩
theorem u8_nat {i : Int} (h : IntKind.u8.min ≤ i ∧ i ≤ IntKind.u8.max) : ∃ k : Nat, i = k ∧ k < 256 := by
  have e1 : IntKind.u8.min = 0 := by decide
  have e2 : IntKind.u8.max = 255 := by decide
  rw [e1, e2] at h
  exact ⟨i.toNat, by omega, by omega⟩
theorem roll_int {n : List Int} (e : n.length = 3) (b : ∀ x ∈ n, IntKind.u8.min ≤ x ∧ x ≤ IntKind.u8.max) : ∃ x y z : Nat, n = [(x : Int), (y : Int), (z : Int)] ∧ x < 256 ∧ y < 256 ∧ z < 256 := by
  match n, e with
  | [x, y, z], _ =>
    obtain ⟨x, rfl, hx⟩ := u8_nat (b x (by simp))
    obtain ⟨y, rfl, hy⟩ := u8_nat (b y (by simp))
    obtain ⟨z, rfl, hz⟩ := u8_nat (b z (by simp))
    exact ⟨x, y, z, rfl, hx, hy, hz⟩
theorem wrapNearer_int (n : List Int) (e : n.length = 3) (b : ∀ x ∈ n, IntKind.u8.min ≤ x ∧ x ≤ IntKind.u8.max) (H : AH) : AC Try.prog 12 [.agg (n.map (.int .u8))] H fun u _ => u = .bool true := by
  obtain ⟨x, y, z, rfl, hx, hy, hz⟩ := roll_int e b
  exact wrapNearer_ac x y z hx hy hz H
end Go.Proofs.Ytjfmiohgkcjdnaa

/- Quotients lead back: WrapChain, walked. -/
namespace Go.Proofs.Ytjfmiohgkcjdnaa
open Go Go.Proofs.Ytjfmiohgkcjdnaa.AX

/-- Two numbers, after i steps. -/
def eu (a b : Nat) : Nat → Nat × Nat
  | 0 => (a, b)
  | i + 1 => eu b (a % b) i
theorem eu_next (a b : Nat) : ∀ i, eu a b (i + 1) = ((eu a b i).2, (eu a b i).1 % (eu a b i).2)
  | 0 => rfl
  | i + 1 => by
    show eu b (a % b) (i + 1) = _
    rw [eu_next b (a % b) i]; rfl
theorem quos_eu : ∀ (n a b : Nat), b < n → (∀ i (h : i < (quos a b).length), (quos a b)[i] = (((eu a b i).1 / (eu a b i).2 : Nat) : Int) ∧ (eu a b i).2 ≠ 0) ∧ eu a b (quos a b).length = (Nat.gcd a b, 0) := by
  intro n
  induction n with
  | zero => intro a b h; omega
  | succ n ih =>
    intro a b h
    by_cases hb : b = 0
    · subst hb
      rw [quos_zero]
      exact ⟨fun i h => by simp at h, by simp [eu]⟩
    · have hr : a % b < b := Nat.mod_lt _ (by omega)
      obtain ⟨h1, h2⟩ := ih b (a % b) (by omega)
      rw [quos_pos a hb]
      refine ⟨fun i hi => ?_, ?_⟩
      · cases i with
        | zero => exact ⟨rfl, hb⟩
        | succ i => exact h1 i (by simpa using hi)
      · show eu b (a % b) (quos b (a % b)).length = _
        rw [h2, Nat.gcd_comm a b, Nat.gcd_rec b a, Nat.gcd_comm]
theorem eu_le (a b : Nat) (hab : b < a) : ∀ i, i ≤ (quos a b).length → (eu a b i).1 ≤ a ∧ (i < (quos a b).length → (eu a b i).2 < (eu a b i).1)
  | 0, _ => ⟨Nat.le_refl _, fun _ => hab⟩
  | i + 1, h => by
    obtain ⟨h1, h2⟩ := eu_le a b hab i (by omega)
    have hne := ((quos_eu (b + 1) a b (by omega)).1 i (by omega)).2
    have := h2 (by omega)
    rw [eu_next]
    exact ⟨by omega, fun _ => Nat.mod_lt _ (by omega)⟩
theorem quos_len : ∀ (k a b : Nat), b < 2 ^ k → b < a → (quos a b).length ≤ 2 * k
  | 0, a, b, h, _ => by
    have : b = 0 := by simpa using h
    subst this; rw [quos_zero]; simp
  | k + 1, a, b, h, hab => by
    by_cases hb : b = 0
    · subst hb; rw [quos_zero]; simp
    · rw [quos_pos a hb]
      have hr : a % b < b := Nat.mod_lt _ (by omega)
      by_cases hr0 : a % b = 0
      · rw [hr0, quos_zero]; simp; omega
      · rw [quos_pos b hr0]
        have h3 : b % (a % b) < a % b := Nat.mod_lt _ (by omega)
        have h4 : b % (a % b) + (a % b) ≤ b := by
          have := Nat.div_add_mod b (a % b)
          have h5 : 1 ≤ b / (a % b) := Nat.div_pos (by omega) (by omega)
          have h6 : (a % b) * 1 ≤ (a % b) * (b / (a % b)) := Nat.mul_le_mul_left _ h5
          omega
        have h7 : 2 ^ (k + 1) = 2 * 2 ^ k := by rw [Nat.pow_succ]; omega
        have := quos_len k (a % b) (b % (a % b)) (by omega) h3
        simp only [List.length_cons]; omega
def chainR (m s : Int) : List Int := if circleE m s = 0 then quos m.toNat s.toNat else []
theorem Chain_ac (m s : Int) (H : AH) (Q : AV → AH → Prop) (h : ∀ v H', OwnF H.length H' v ((chainR m s).map (.int .i64)) → Ext H H' → Q (.tuple [v, .int .i64 (circleE m s)]) H') : AC Try.prog 41 [.int .i64 m, .int .i64 s] H Q := by
  refine L_body 26 Try.func41 rfl rfl ?_
  refine L_reg [0, 1] (fun K hK => ?_)
  simp
  apply hK; clear hK K
  unfold chainR at h
  by_cases h0 : circleE m s = 0
  · simp only [h0, if_true] at h
    have hv : wholeV m s = WV m s (per m.toNat s.toNat : Nat) := by rw [wholeV, if_pos h0]
    refine L_reg [0, 1, 7] (fun K hK => ?_)
    simp [okFn_low]
    refine whole_ac m s _ _ ?_
    simp [alloc_z zt23, hv, h0, WV, newW]
    apply hK; clear hK K
    obtain ⟨m, s, rfl, rfl, a1, a2, a3⟩ := circleE_zero h0
    simp only [Int.toNat_natCast] at h ⊢
    have hE := Ext.push H [AObj.row [.int .i64 m, .int .i64 s, .int .i64 (per m s : Nat)] 0 0 false]
    generalize H ++ [AObj.row [.int .i64 m, .int .i64 s, .int .i64 (per m s : Nat)] 0 0 false] = H1 at hE ⊢
    refine L_reg [0, 1, 7, 17] (fun K hK => ?_)
    simp
    apply hK; clear hK K
    refine L_false (by simp) ?_
    refine L_reg [8] (fun K hK => ?_)
    simp [okFn_low]
    refine chain_ac0 m s (by omega) (by omega) _ _ (fun v H2 hO hE2 => ?_)
    simp
    apply hK; clear hK K
    refine L_reg [4, 5] (fun K hK => ?_)
    simp
    apply hK; clear hK K
    exact L_ret ⟨.inr rfl, _, rfl, h v H2 (hO.mono hE.1) (hE.trans hE2)⟩
  · simp only [if_neg h0] at h
    have hv : wholeV m s = WV 0 0 0 := by rw [wholeV, if_neg h0]
    refine L_reg [0, 1, 7] (fun K hK => ?_)
    simp [okFn_low]
    refine whole_ac m s _ _ ?_
    simp [alloc_z zt23, hv, WV, newW]
    apply hK; clear hK K
    refine L_reg [0, 1, 7, 17] (fun K hK => ?_)
    simp
    apply hK; clear hK K
    refine L_true (by simp [h0]) ?_
    refine L_reg [4, 5] (fun K hK => ?_)
    simp
    apply hK; clear hK K
    exact L_ret ⟨.inr rfl, _, rfl, h _ _ (.nil _ _) (.push _ _)⟩
set_option maxRecDepth 100000 in
theorem wrapChain_ac (a b c : Nat) (ha : a < 256) (hb : b < 256) (hc : c < 256) (H : AH) : AC Try.prog 14 [.agg [.int .u8 a, .int .u8 b, .int .u8 c]] H fun u _ => u = .bool true := by
  refine L_body 114 Try.func14 rfl rfl ?_
  obtain ⟨H1, e, hE, hl1, r1, l0, l1, l2, la⟩ := box3u H a b c
  refine L_reg [1] (fun K hK => ?_)
  simp [AV.isU, acells]
  apply hK; clear hK K
  rw [e]
  have hm := mM_ok a
  have hs := mS_ok a b
  have ht := mT_ok a b c
  refine L_reg [3] (fun K hK => ?_)
  simp [okFn_low, la]
  refine made_ac a b c ha hb hc _ _ ?_
  generalize mM a = m at *
  generalize mS a b = s at *
  generalize mT a b c = t at *
  simp [alloc_z zt23, newW, WV]
  apply hK; clear hK K
  obtain ⟨H2, e2, hE2, hl2, r2, bx⟩ := box3 H1 m s t
  rw [e2]
  generalize hp : H1.length = p at *
  have hcz : circleE m s = 0 := by unfold circleE; rw [if_neg (by omega)]
  refine L_reg [3, 4, 5] (fun K hK => ?_)
  simp [okFn_low, bx.l0, bx.l1]
  refine Chain_ac m s _ _ (fun v H3 hO hE3 => ?_)
  have hnR : chainR m s = quos m s := by unfold chainR; rw [if_pos hcz]; rfl
  rw [hnR] at hO
  rw [hcz]
  simp
  apply hK; clear hK K
  have bx3 := bx.ext hE3
  have r3 := hE3.row r2
  have hq := quos_len 7 m s (by omega) hs
  obtain ⟨hq1, hq2⟩ := quos_eu (s + 1) m s (by omega)
  have hq3 := eu_le m s hs
  have hv : Ls H3 v (quos m s) := hO.own.ls
  have hpm := per_le m s
  have hpp := per_pos (m := m) (s := s) (by omega)
  have hg : m / per m s = Nat.gcd m s := by
    unfold per
    have h1 := Nat.div_mul_cancel (Nat.gcd_dvd_left m s)
    have h2 : 0 < m / Nat.gcd m s := hpp
    exact Nat.div_eq_of_eq_mul_right h2 h1.symm
  have hlast : 1 < (quos m s).length → ∀ h : (quos m s).length - 1 < (quos m s).length, 2 ≤ (quos m s)[(quos m s).length - 1] := by
    intro h1 h2
    obtain ⟨h3, h4⟩ := hq1 _ h2
    rw [h3]
    have h5 := (hq3 ((quos m s).length - 1) (by omega)).2 (by omega)
    have h6 := eu_next m s ((quos m s).length - 1)
    rw [show (quos m s).length - 1 + 1 = (quos m s).length by omega, hq2] at h6
    have h7 : (eu m s ((quos m s).length - 1)).1 % (eu m s ((quos m s).length - 1)).2 = 0 := (congrArg Prod.snd h6).symm
    generalize (eu m s ((quos m s).length - 1)).1 = x at *
    generalize (eu m s ((quos m s).length - 1)).2 = y at *
    have h8 := Nat.div_add_mod x y
    have h9 : 2 ≤ x / y := by
      rcases Nat.lt_or_ge (x / y) 2 with h | h
      · have : y * (x / y) ≤ y * 1 := Nat.mul_le_mul_left _ (by omega)
        omega
      · exact h
    omega
  generalize hQ : quos m s = L at *
  obtain ⟨r, off, ver, sz, full, rfl, hld⟩ := hv
  have hln : L.length ≤ 14 := by omega
  refine L_reg [3, 4, 27] (fun K hK => ?_)
  simp
  apply hK; clear hK K
  refine L_false (by simp; omega) ?_
  have hper0 : per m s ≠ 0 := by omega
  have e3 : ((m : Int)).tdiv (per m s : Int) = ((Nat.gcd m s : Nat) : Int) := by
    rw [Int.tdiv_eq_ediv_of_nonneg (by omega), ← hg]; rfl
  have hgl : Nat.gcd m s ≤ m := Nat.le_of_dvd (by omega) (Nat.gcd_dvd_left m s)
  refine L_regQ mixed [3, 4, 6, 7] (by kernel_rfl) (fun K hK => ?_)
  simp [okFn_low, bx3.l0, bx3.l1]
  refine exQ_mk (fun Q hQ => diff_ac m s hm.1 hm.2 hs _ Q hQ) ?_
  simp [hper0, e3, wrap_i64 (a := ((Nat.gcd m s : Nat) : Int)) (by omega)]
  apply hK; clear hK K
  refine L_reg [3, 4, 6, 7, 8] (fun K hK => ?_)
  simp [wrap_i64 (a := (L.length : Int) - 1) (by omega)]
  apply hK; clear hK K
  refine L_block (L_loopV [6, 7, 8] (fun n vs H' => ∃ i : Nat, n = i ∧ i ≤ L.length ∧ vs = [.int .i64 ((eu m s i).1 : Nat), .int .i64 ((eu m s i).2 : Nat), .int .i64 ((i : Int) - 1)] ∧ H3 = H') _ [.int .i64 (Nat.gcd m s : Nat), .int .i64 0, .int .i64 ((L.length : Int) - 1)] rfl ⟨L.length, rfl, Nat.le_refl _, by rw [hq2]; rfl, rfl⟩ ?_)
  rintro n _ _ ⟨i, rfl, hi, rfl, rfl⟩
  refine L_reg [3, 4, 6, 7, 8, 40] (fun K hK => ?_)
  simp
  apply hK; clear hK K
  have hxi := (hq3 n hi).1
  refine L_dec ((0 : Int) ≤ (n : Int) - 1) (by simp) (fun hlt => ?_) (fun hge => L_exit ?_)
  · refine L_block ?_
    obtain ⟨j, rfl⟩ : ∃ j, n = j + 1 := ⟨n - 1, by omega⟩
    obtain ⟨r', rfl, rfl, hrd⟩ := hld j (by omega)
    have hj := hq1 j (by omega)
    have hj3 := hq3 j (by omega)
    have hj4 := hj3.2 (by omega)
    have hnx := eu_next m s j
    rw [hj.1] at hrd
    generalize heu : eu m s j = xy at *
    obtain ⟨x, y⟩ := xy
    rw [hnx] at hxi ⊢
    simp only at *
    have h8 := Nat.div_add_mod x y
    have h9 : 1 ≤ x / y := Nat.div_pos (by omega) (by omega)
    have h10 : x / y ≤ x := Nat.div_le_self _ _
    have h11 : x / y * y ≤ x := by rw [Nat.mul_comm]; omega
    have h12 : ((x / y : Nat) : Int) * y + ((x % y : Nat) : Int) = x := by
      have : ((x / y * y + x % y : Nat) : Int) = x := by rw [Nat.mul_comm]; omega
      push_cast at this
      exact this
    have h13 : ((x / y : Nat) : Int) * y ≤ 100 ∧ 0 ≤ ((x / y : Nat) : Int) * y := by
      have : ((x / y * y : Nat) : Int) = ((x / y : Nat) : Int) * y := by push_cast; rfl
      omega
    generalize x / y = qq at *
    generalize x % y = rr at *
    generalize hpq : (qq : Int) * y = pq at *
    refine L_reg [3, 4, 6, 7, 8, 58] (fun K hK => ?_)
    simp [pickV, show ((j : Int) + 1 - 1) = j by omega, hrd, show (0 : Int) ≤ j by omega, show (j : Int) < L.length by omega, show ¬ ((qq : Int) < 1) by omega, show ¬ (100 < (qq : Int)) by omega]
    apply hK; clear hK K
    refine L_false (by simp; omega) ?_
    refine L_reg [3, 4, 6, 7, 8] (fun K hK => ?_)
    simp [hrd, show (0 : Int) ≤ j by omega, show (j : Int) < L.length by omega, hpq, wrap_i64 (a := pq) (by omega), h12, wrap_i64 (a := (x : Int)) (by omega)]
    apply hK; clear hK K
    refine L_reg [3, 4, 6, 7, 8] (fun K hK => ?_)
    simp [wrap_i64 (a := (j : Int) - 1) (by omega)]
    apply hK; clear hK K
    exact ⟨j, [.int .i64 x, .int .i64 y, .int .i64 ((j : Int) - 1)], by omega, by simp, j, rfl, by omega, by rw [heu], rfl⟩
  · have hn0 : n = 0 := by omega
    subst hn0
    have he0 : eu m s 0 = (m, s) := rfl
    rw [he0]
    simp only
    refine L_reg [3, 4, 6, 7, 9] (fun K hK => ?_)
    simp
    apply hK; clear hK K
    have hck1 : checkE m s (per m s : Nat) = 0 := checkE_ok hm.1 hm.2 hs (by omega) (Nat.le_refl _)
    have hck2 : checkE m s ((per m s : Int) + 1) = 3 := by
      unfold checkE
      rw [if_neg (by omega), if_pos (by simp; omega)]
    by_cases hL1 : 1 < L.length
    · obtain ⟨r', rfl, rfl, hrd⟩ := hld (L.length - 1) (by omega)
      have h2 := hlast hL1 (by omega)
      refine L_reg [3, 6, 7, 79] (fun K hK => ?_)
      simp [pickV, wrap_i64 (a := (L.length : Int) - 1) (by omega), show ((L.length : Int) - 1).toNat = L.length - 1 by omega, hrd, show (1 : Int) ≤ L.length by omega, show (L.length : Int) - 1 < L.length by omega, show (1 : Int) < L.length by omega]
      apply hK; clear hK K
      refine L_false (by simp; omega) ?_
      refine L_reg [3, 6, 7] (fun K hK => ?_)
      simp [okFn_low, bx3.l0, bx3.l1]
      refine diff_ac m s hm.1 hm.2 hs _ _ ?_
      simp [setT r3]
      apply hK; clear hK K
      have r4 := get_set (o' := AObj.row [.int .i64 m, .int .i64 s, .int .i64 (per m s : Nat)] 0 0 false) r3
      generalize hH4 : H3.set p (AObj.row [.int .i64 m, .int .i64 s, .int .i64 (per m s : Nat)] 0 0 false) = H4 at *
      have bx4 := Bx.row r4
      refine L_reg [3, 6, 7, 10] (fun K hK => ?_)
      simp [bx4.la, alloc_z zt23, newW]
      apply hK; clear hK K
      have hE5 := Ext.push H4 [AObj.row [.int .i64 m, .int .i64 s, .int .i64 (per m s : Nat)] 0 0 false]
      have r5 : (H4 ++ [AObj.row [.int .i64 m, .int .i64 s, .int .i64 (per m s : Nat)] 0 0 false])[H4.length]? = some (AObj.row [.int .i64 m, .int .i64 s, .int .i64 (per m s : Nat)] 0 0 false) := by simp
      have bx5 := bx4.ext hE5
      generalize hp2 : H4.length = p2 at *
      generalize H4 ++ [AObj.row [.int .i64 m, .int .i64 s, .int .i64 (per m s : Nat)] 0 0 false] = H5 at *
      have b6 := Bx.row r5
      have hp12 : p2 ≠ p := by
        have h1 := (List.getElem?_eq_some_iff.1 r4).1
        omega
      refine L_reg [3, 6, 7, 10] (fun K hK => ?_)
      simp [b6.l2, setT r5, wrap_i64 (a := (per m s : Int) + 1) (by omega)]
      apply hK; clear hK K
      have r7 := get_set (o' := AObj.row [.int .i64 m, .int .i64 s, .int .i64 ((per m s : Int) + 1)] 0 0 false) r5
      have b7 := Bx.row r7
      have b8 : Bx (H5.set p2 (AObj.row [.int .i64 m, .int .i64 s, .int .i64 ((per m s : Int) + 1)] 0 0 false)) p m s (per m s : Nat) := Bx.row (st := 0) (ro := false) (by rw [set_ne hp12, hE5.row r4])
      generalize H5.set p2 (AObj.row [.int .i64 m, .int .i64 s, .int .i64 ((per m s : Int) + 1)] 0 0 false) = H7 at *
      refine L_reg [2] (fun K hK => ?_)
      simp [pickV, okFn_low, b8.l0, b8.l1, b8.la]
      refine Check_ac m s (per m s : Nat) _ _ ?_
      simp [pickV, okFn_low, b7.la, hck1]
      refine Check_ac m s ((per m s : Int) + 1) _ _ ?_
      simp [pickV, okFn_low, hck2]
      refine works_ac _ _ ?_
      simp [pickV]
      apply hK; clear hK K
      exact L_ret ⟨.inr rfl, _, rfl, rfl⟩
    · refine L_reg [3, 6, 7, 79] (fun K hK => ?_)
      simp [pickV, show ¬ ((1 : Int) < L.length) by omega]
      apply hK; clear hK K
      refine L_false (by simp) ?_
      refine L_reg [3, 6, 7] (fun K hK => ?_)
      simp [okFn_low, bx3.l0, bx3.l1]
      refine diff_ac m s hm.1 hm.2 hs _ _ ?_
      simp [setT r3]
      apply hK; clear hK K
      have r4 := get_set (o' := AObj.row [.int .i64 m, .int .i64 s, .int .i64 (per m s : Nat)] 0 0 false) r3
      generalize hH4 : H3.set p (AObj.row [.int .i64 m, .int .i64 s, .int .i64 (per m s : Nat)] 0 0 false) = H4 at *
      have bx4 := Bx.row r4
      refine L_reg [3, 6, 7, 10] (fun K hK => ?_)
      simp [bx4.la, alloc_z zt23, newW]
      apply hK; clear hK K
      have hE5 := Ext.push H4 [AObj.row [.int .i64 m, .int .i64 s, .int .i64 (per m s : Nat)] 0 0 false]
      have r5 : (H4 ++ [AObj.row [.int .i64 m, .int .i64 s, .int .i64 (per m s : Nat)] 0 0 false])[H4.length]? = some (AObj.row [.int .i64 m, .int .i64 s, .int .i64 (per m s : Nat)] 0 0 false) := by simp
      have bx5 := bx4.ext hE5
      generalize hp2 : H4.length = p2 at *
      generalize H4 ++ [AObj.row [.int .i64 m, .int .i64 s, .int .i64 (per m s : Nat)] 0 0 false] = H5 at *
      have b6 := Bx.row r5
      have hp12 : p2 ≠ p := by
        have h1 := (List.getElem?_eq_some_iff.1 r4).1
        omega
      refine L_reg [3, 6, 7, 10] (fun K hK => ?_)
      simp [b6.l2, setT r5, wrap_i64 (a := (per m s : Int) + 1) (by omega)]
      apply hK; clear hK K
      have r7 := get_set (o' := AObj.row [.int .i64 m, .int .i64 s, .int .i64 ((per m s : Int) + 1)] 0 0 false) r5
      have b7 := Bx.row r7
      have b8 : Bx (H5.set p2 (AObj.row [.int .i64 m, .int .i64 s, .int .i64 ((per m s : Int) + 1)] 0 0 false)) p m s (per m s : Nat) := Bx.row (st := 0) (ro := false) (by rw [set_ne hp12, hE5.row r4])
      generalize H5.set p2 (AObj.row [.int .i64 m, .int .i64 s, .int .i64 ((per m s : Int) + 1)] 0 0 false) = H7 at *
      refine L_reg [2] (fun K hK => ?_)
      simp [pickV, okFn_low, b8.l0, b8.l1, b8.la]
      refine Check_ac m s (per m s : Nat) _ _ ?_
      simp [pickV, okFn_low, b7.la, hck1]
      refine Check_ac m s ((per m s : Int) + 1) _ _ ?_
      simp [pickV, okFn_low, hck2]
      refine works_ac _ _ ?_
      simp [pickV]
      apply hK; clear hK K
      exact L_ret ⟨.inr rfl, _, rfl, rfl⟩
theorem wrapChain_int (n : List Int) (e : n.length = 3) (b : ∀ x ∈ n, IntKind.u8.min ≤ x ∧ x ≤ IntKind.u8.max) (H : AH) : AC Try.prog 14 [.agg (n.map (.int .u8))] H fun u _ => u = .bool true := by
  obtain ⟨x, y, z, rfl, hx, hy, hz⟩ := roll_int e b
  exact wrapChain_ac x y z hx hy hz H
end Go.Proofs.Ytjfmiohgkcjdnaa
