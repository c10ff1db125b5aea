/- Sorting numbers (Heap). -/
import Derived.Test.YtjfmiohgkcjdnaaMd
namespace Go.Proofs.Ytjfmiohgkcjdnaa.Ord
open Go Go.Proofs.Ytjfmiohgkcjdnaa.AX Go.Proofs.Ytjfmiohgkcjdnaa

set_option maxRecDepth 100000 in
theorem siftDown_ac (D : Int → Prop) (κ : Int → Int) (r ver lo hi fi : Nat) (c : List Int) (H : AH) (Q : AV → AH → Prop) (hC : CmpO D κ r H) (hr : Rw r ver H c) (hD : All D c) (hl : c.length ≤ 1000000) (hb : fi + hi ≤ c.length) (hlo : lo ≤ hi) (hH : ∀ i, lo < i → Hp κ fi hi c i)
    (h : ∀ (H' : AH) (m : List Int), Shuf (fi + lo) (fi + hi) c m → (∀ i, lo ≤ i → Hp κ fi hi m i) → Rw r ver H' m → KeepX r H H' → Q (.tuple []) H') : AC Try.prog 123 [.slice (some r) 0 c.length ver 1 false, .int .i64 lo, .int .i64 hi, .int .i64 fi] H Q := by
  refine L_body 76 Try.func123 rfl rfl ?_
  refine L_reg [0, 2, 3, 8] (fun K hK => ?_)
  simp
  apply hK; clear hK K
  generalize hn : c.length = n at *
  refine L_block (L_loopV [8] (fun k vs H' => ∃ (ro : Nat) (d : List Int), k = hi - ro ∧ lo ≤ ro ∧ ro ≤ hi ∧ Shuf (fi + lo) (fi + hi) c d ∧ (∀ i, lo ≤ i → i ≠ ro → Hp κ fi hi d i) ∧ (∀ i, lo ≤ i → ro = 2 * i + 1 ∨ ro = 2 * i + 2 → ∀ q, q = 2 * ro + 1 ∨ q = 2 * ro + 2 → q < hi → κ (g d (fi + q)) ≤ κ (g d (fi + i))) ∧ vs = [.int .i64 ro] ∧ Rw r ver H' d ∧ KeepX r H H') _ [.int .i64 lo] rfl ⟨lo, c, rfl, by omega, by omega, .refl _ _ _, fun i h1 h2 => hH i (by omega), fun i h1 h2 => by omega, rfl, hr, .refl r H⟩ ?_)
  rintro _ _ H1 ⟨ro, d, rfl, hro, hroh, hS, h1, h2, rfl, hrow, hK⟩
  have hdl : d.length = n := by rw [hS.len]; exact hn
  have hdD := hD.perm hS.1
  have hCk := hC.keep hK
  refine L_block ?_
  obtain ⟨ch, hch⟩ : ∃ ch : Nat, 2 * (ro : Int) + 1 = ch := ⟨2 * ro + 1, by omega⟩
  refine L_reg [0, 2, 3, 8, 9] (fun K hK => ?_)
  simp [wrap_i64 (a := 2 * (ro : Int)) (by omega), hch, wrap_i64 (a := (ch : Int)) (by omega)]
  apply hK; clear hK K
  refine L_reg [0, 2, 3, 8, 9, 16] (fun K hK => ?_)
  simp
  apply hK; clear hK K
  refine L_dec (hi ≤ ch) (by simp) (fun hge => L_exit ?_) (fun hlt => ?_)
  · refine ⟨.inl rfl, _, rfl, h H1 d hS (fun i hi1 => ?_) hrow hK⟩
    by_cases e : i = ro
    · subst e; intro c hc hch; omega
    · exact h1 i hi1 e
  obtain ⟨ix, hix⟩ : ∃ ix : Nat, (fi : Int) + ch = ix := ⟨fi + ch, by omega⟩
  have hixn : ix = fi + ch := by omega
  refine L_regT mixed [0, 2, 3, 8, 9, 36] (by kernel_rfl) (fun K hK0 => ?_)
  have hK2 : ∀ t : Bool, (t = true → ch + 1 < hi ∧ κ (g d (fi + ch)) < κ (g d (fi + (ch + 1)))) → (t = false → ch + 1 < hi → κ (g d (fi + (ch + 1))) ≤ κ (g d (fi + ch))) → K [(0, .slice (some r) 0 n ver 1 false), (2, .int .i64 hi), (3, .int .i64 fi), (8, .int .i64 ro), (9, .int .i64 ch), (36, .bool t)] H1 := by
    intro t ht1 ht2
    refine hK0 _ _ ?_
    clear hK0 K
    refine L_condK [0, 2, 3, 8, 9] (fun e' H' => ∃ c2 : Nat, (c2 = ch ∨ c2 = ch + 1) ∧ c2 < hi ∧ (∀ q, q = ch ∨ q = ch + 1 → q < hi → κ (g d (fi + q)) ≤ κ (g d (fi + c2))) ∧ e' = [(0, .slice (some r) 0 n ver 1 false), (2, .int .i64 hi), (3, .int .i64 fi), (8, .int .i64 ro), (9, .int .i64 (c2 : Nat))] ∧ H1 = H') (t := t) rfl (fun ht => ?_) (fun ht => ?_) ?_
    · obtain ⟨g1, g2⟩ := ht1 ht
      refine L_reg [0, 2, 3, 8, 9] (fun K hK => ?_)
      simp [wrap_i64 (a := (ch : Int) + 1) (by omega)]
      apply hK; clear hK K
      refine ⟨ch + 1, .inr rfl, g1, fun q hq1 hq2 => ?_, by simp, rfl⟩
      rcases hq1 with rfl | rfl <;> omega
    · refine ⟨ch, .inl rfl, by omega, fun q hq1 hq2 => ?_, by simp, rfl⟩
      rcases hq1 with rfl | rfl
      · omega
      · exact ht2 ht hq2
    · rintro _ _ ⟨c2, hc2, hc2h, hbig, rfl, rfl⟩
      clear ht1 ht2
      have hc2ro : c2 = 2 * ro + 1 ∨ c2 = 2 * ro + 2 := by omega
      obtain ⟨ia, hia⟩ : ∃ ix : Nat, (fi : Int) + ro = ix := ⟨fi + ro, by omega⟩
      obtain ⟨ib, hib⟩ : ∃ ix : Nat, (fi : Int) + c2 = ix := ⟨fi + c2, by omega⟩
      have hian : ia = fi + ro := by omega
      have hibn : ib = fi + c2 := by omega
      have hx := hrow.ld (i := ia) (by omega)
      have hy := hrow.ld (i := ib) (by omega)
      have ga : ia < n := by omega
      have gb : ib < n := by omega
      refine L_regT mixed [0, 2, 3, 8, 9, 52] (by kernel_rfl) (fun K hK => ?_)
      simp [okFn_low, hia, hib, ga, gb, hx, hy, wrap_i64 (a := (ia : Int)) (by omega), wrap_i64 (a := (ib : Int)) (by omega)]
      refine exC_mk (fun Q hQ => hCk.2 H1 (.refl _ _) _ _ (hdD ia (by omega)) (hdD ib (by omega)) Q hQ) ?_
      simp
      apply hK; clear hK K
      by_cases hless : κ (g d ia) < κ (g d ib)
      · refine L_false (by simpa using cmpS_neg.2 hless) ?_
        obtain ⟨H2, H3, e1, e2, e3, e4⟩ := hrow.swap (i := ia) (j := ib) (by omega) (by omega)
        refine L_regT mixed [0, 2, 3, 9] (by kernel_rfl) (fun K hK => ?_)
        simp [hia, hib, ga, gb, hx, hy, e1, e2, wrap_i64 (a := (ia : Int)) (by omega), wrap_i64 (a := (ib : Int)) (by omega)]
        apply hK; clear hK K
        refine L_reg [0, 2, 3, 8] (fun K hK => ?_)
        simp
        apply hK; clear hK K
        have w0 := sw_i (c := d) (i := ia) (j := ib) (by omega) (by omega)
        have w1 := sw_j (c := d) (i := ia) (j := ib) (by omega) (by omega)
        have w2 := fun (k : Nat) (k1 : k ≠ ia) (k2 : k ≠ ib) => sw_o (c := d) (i := ia) (j := ib) (by omega) (by omega) k1 k2
        subst hian
        subst hibn
        have v0 : g (sw d (fi + ro) (fi + c2)) (fi + ro) = g d (fi + c2) := w0
        have v1 : g (sw d (fi + ro) (fi + c2)) (fi + c2) = g d (fi + ro) := w1
        have v2 : ∀ k, k ≠ ro → k ≠ c2 → g (sw d (fi + ro) (fi + c2)) (fi + k) = g d (fi + k) := fun k k1 k2 => w2 _ (by omega) (by omega)
        refine ⟨hi - c2, [.int .i64 (c2 : Nat)], by omega, by simp, c2, _, rfl, by omega, by omega, hS.trans (.swap (by omega) (by omega) (by omega)), fun i i1 i2 q q1 q2 => ?_, fun i i1 i2 q q1 q2 => ?_, rfl, e3, hK.trans e4⟩
        · by_cases e : i = ro
          · subst e
            rw [v0]
            by_cases q3 : q = c2
            · rw [q3, v1]; omega
            · rw [v2 q (by omega) q3]; exact hbig q (by omega) q2
          · have h3 := h1 i i1 e q q1 q2
            rw [v2 i e i2]
            by_cases q3 : q = ro
            · rw [q3, v0]; exact h2 i i1 (by omega) c2 hc2ro hc2h
            · rw [v2 q q3 (by omega)]; exact h3
        · have : i = ro := by omega
          subst this
          rw [v0, v2 q (by omega) (by omega)]
          exact h1 c2 (by omega) (by omega) q q1 q2
      · have hneg : ¬ cmpS (κ (g d ia)) (κ (g d ib)) < 0 := fun h => hless (cmpS_neg.1 h)
        refine L_true (by simpa using hneg) ?_
        refine L_ret ⟨.inr rfl, _, rfl, h H1 d hS (fun i hi1 => ?_) hrow hK⟩
        by_cases e : i = ro
        · subst e
          intro q q1 q2
          have := hbig q (by omega) q2
          rw [hian, hibn] at hless
          omega
        · exact h1 i hi1 e
  by_cases hc1 : ch + 1 < hi
  · have hx := hrow.ld (i := ix) (by omega)
    have hy := hrow.ld (i := ix + 1) (by omega)
    have g1 : ix < n := by omega
    have g2 : (ix : Int) + 1 < n := by omega
    have g3 : (0 : Int) ≤ (ix : Int) + 1 := by omega
    have g4 : ((ix : Int) + 1).toNat = ix + 1 := by omega
    have g5 : (ch : Int) + 1 < hi := by omega
    simp [okFn_low, hix, g1, g2, g3, g4, g5, hx, hy, wrap_i64 (a := (ch : Int) + 1) (by omega), wrap_i64 (a := (ix : Int)) (by omega), wrap_i64 (a := (ix : Int) + 1) (by omega)]
    refine exC_mk (fun Q hQ => hCk.2 H1 (.refl _ _) _ _ (hdD ix (by omega)) (hdD (ix + 1) (by omega)) Q hQ) ?_
    simp [pickV]
    refine hK2 _ (fun ht => ⟨hc1, ?_⟩) (fun ht _ => ?_)
    · have := cmpS_neg.1 (of_decide_eq_true ht)
      rw [hixn] at this; exact this
    · have : ¬ κ (g d ix) < κ (g d (ix + 1)) := fun h => (of_decide_eq_false ht) (cmpS_neg.2 h)
      rw [hixn] at this
      exact Int.not_lt.1 this
  · have g5 : ¬ (ch : Int) + 1 < hi := by omega
    simp [pickV, g5, wrap_i64 (a := (ch : Int) + 1) (by omega)]
    exact hK2 false (fun h => by cases h) (fun _ h => absurd h hc1)
end Go.Proofs.Ytjfmiohgkcjdnaa.Ord

/- Sorting numbers (Heap2). -/
namespace Go.Proofs.Ytjfmiohgkcjdnaa.Ord
open Go Go.Proofs.Ytjfmiohgkcjdnaa.AX Go.Proofs.Ytjfmiohgkcjdnaa

set_option maxRecDepth 100000 in
theorem heapSort_ac (D : Int → Prop) (κ : Int → Int) (r ver a l : Nat) (c : List Int) (H : AH) (Q : AV → AH → Prop) (hC : CmpO D κ r H) (hr : Rw r ver H c) (hD : All D c) (hl : c.length ≤ 1000000) (hb : a + l ≤ c.length) (hl1 : 1 ≤ l)
    (h : ∀ (H' : AH) (m : List Int), Shuf a (a + l) c m → Srt κ a (a + l) m → Rw r ver H' m → KeepX r H H' → Q (.tuple []) H') : AC Try.prog 110 [.slice (some r) 0 c.length ver 1 false, .int .i64 a, .int .i64 (a + l : Nat)] H Q := by
  refine L_body 56 Try.func110 rfl rfl ?_
  refine L_reg [0, 1, 2, 6] (fun K hK => ?_)
  simp
  apply hK; clear hK K
  refine L_reg [0, 1, 2, 6, 7] (fun K hK => ?_)
  simp
  apply hK; clear hK K
  refine L_reg [0, 6, 7, 8] (fun K hK => ?_)
  simp [show ((a : Int) + l - a) = l by omega, wrap_i64 (a := (l : Int)) (by omega)]
  apply hK; clear hK K
  obtain ⟨l0, rfl⟩ : ∃ l0, l = l0 + 1 := ⟨l - 1, by omega⟩
  generalize hL : l0 + 1 = L at *
  have hdiv : ((l0 : Int)).tdiv 2 = ((l0 / 2 : Nat) : Int) := by rw [Int.tdiv_eq_ediv_of_nonneg (by omega)]; rfl
  obtain ⟨q, hq⟩ : ∃ q, q = l0 / 2 := ⟨_, rfl⟩
  rw [← hq] at hdiv
  have hL1 : (L : Int) - 1 = l0 := by omega
  refine L_reg [0, 6, 7, 8, 9] (fun K hK => ?_)
  simp [hL1, hdiv, wrap_i64 (a := (l0 : Int)) (by omega), wrap_i64 (a := (q : Int)) (by omega)]
  apply hK; clear hK K
  generalize hn : c.length = n at *
  refine L_blockR (fun e' H' => ∃ (d : List Int) (v11 v21 : AV), Shuf a (a + L) c d ∧ (∀ i, Hp κ a L d i) ∧ Rw r ver H' d ∧ KeepX r H H' ∧ e' = [(0, .slice (some r) 0 n ver 1 false), (6, .int .i64 a), (7, .int .i64 0), (8, .int .i64 L), (9, v11), (19, v21)]) (L_loopV [9] (fun k vs H' => ∃ d : List Int, k ≤ q + 1 ∧ Shuf a (a + L) c d ∧ (∀ i, k ≤ i → Hp κ a L d i) ∧ vs = [.int .i64 ((k : Int) - 1)] ∧ Rw r ver H' d ∧ KeepX r H H') (q + 1) [.int .i64 q] rfl ⟨c, by omega, .refl _ _ _, fun i hi q1 q2 q3 => by omega, by simp, hr, .refl r H⟩ ?_) ?_
  · rintro k _ H1 ⟨d, hk, hS, hH, rfl, hrow, hK⟩
    have hdl : d.length = n := by rw [hS.len]; exact hn
    cases k with
    | zero =>
      refine L_reg [0, 6, 7, 8, 9, 19] (fun K hK => ?_)
      simp
      apply hK; clear hK K
      refine L_false (by simp) (L_exit ?_)
      exact ⟨d, _, _, hS, fun i => hH i (by omega), hrow, hK, rfl⟩
    | succ k =>
      have hk1 : (k : Int) + 1 - 1 = k := by omega
      refine L_reg [0, 6, 7, 8, 9, 19] (fun K hK => ?_)
      simp
      apply hK; clear hK K
      refine L_true (by simp) ?_
      refine L_block ?_
      refine L_reg [0, 6, 7, 8, 9] (fun K hK0 => ?_)
      simp [okFn_low]
      have := siftDown_ac D κ r ver k L a d H1 (fun v H' => K [(0, .slice (some r) 0 n ver 1 false), (6, .int .i64 a), (7, .int .i64 0), (8, .int .i64 L), (9, .int .i64 k)] H') (hC.keep hK) hrow (hD.perm hS.1) (by omega) (by omega) (by omega) (fun i hi => hH i (by omega)) (fun H2 m hS2 hH2 hr2 hK2 => ?_)
      · rw [hdl] at this; exact this
      apply hK0; clear hK0 K
      refine L_reg [0, 6, 7, 8, 9] (fun K hK => ?_)
      simp [wrap_i64 (a := (k : Int) - 1) (by omega)]
      apply hK; clear hK K
      exact ⟨k, [.int .i64 ((k : Int) - 1)], by omega, by simp, m, by omega, hS.trans (hS2.wide (by omega) (by omega)), fun i hi => hH2 i hi, rfl, hr2, hK.trans hK2⟩
  rintro _ H1 ⟨d, v11, v21, hS, hH, hrow, hK, rfl⟩
  refine L_reg [0, 6, 7, 10] (fun K hK => ?_)
  simp [hL1, wrap_i64 (a := (l0 : Int)) (by omega)]
  apply hK; clear hK K
  refine L_block (L_loopV [10] (fun k vs H' => ∃ d : List Int, k ≤ L ∧ Shuf a (a + L) c d ∧ (∀ i, Hp κ a k d i) ∧ (∀ p q, p < q → k ≤ q → q < L → κ (g d (a + p)) ≤ κ (g d (a + q))) ∧ vs = [.int .i64 ((k : Int) - 1)] ∧ Rw r ver H' d ∧ KeepX r H H') L [.int .i64 l0] rfl ⟨d, Nat.le_refl _, hS, hH, fun p q h1 h2 h3 => by omega, by rw [hL1], hrow, hK⟩ ?_)
  clear hS hH hrow hK d H1
  rintro k _ H1 ⟨d, hk, hS, hH, hT, rfl, hrow, hK⟩
  have hdl : d.length = n := by rw [hS.len]; exact hn
  cases k with
  | zero =>
    refine L_reg [0, 6, 7, 10, 30] (fun K hK => ?_)
    simp
    apply hK; clear hK K
    refine L_false (by simp) (L_exit ?_)
    refine ⟨.inl rfl, _, rfl, h H1 d hS (fun p q h1 h2 h3 => ?_) hrow hK⟩
    have := hT (p - a) (q - a) (by omega) (by omega) (by omega)
    rw [show a + (p - a) = p by omega, show a + (q - a) = q by omega] at this
    exact this
  | succ k =>
    have hk1 : (k : Int) + 1 - 1 = k := by omega
    refine L_reg [0, 6, 7, 10, 30] (fun K hK => ?_)
    simp
    apply hK; clear hK K
    refine L_true (by simp) ?_
    refine L_block ?_
    obtain ⟨ib, hib⟩ : ∃ ix : Nat, (a : Int) + k = ix := ⟨a + k, by omega⟩
    have hibn : ib = a + k := by omega
    have hx := hrow.ld (i := a) (by omega)
    have hy := hrow.ld (i := ib) (by omega)
    have ga : a < n := by omega
    have gb : ib < n := by omega
    obtain ⟨H2, H3, e1, e2, e3, e4⟩ := hrow.swap (i := a) (j := ib) (by omega) (by omega)
    refine L_regT mixed [0, 6, 7, 10] (by kernel_rfl) (fun K hK => ?_)
    simp [hib, ga, gb, hx, hy, e1, e2, wrap_i64 (a := (ib : Int)) (by omega)]
    apply hK; clear hK K
    subst hibn
    have w0 := sw_i (c := d) (i := a) (j := a + k) (by omega) (by omega)
    have w1 := sw_j (c := d) (i := a) (j := a + k) (by omega) (by omega)
    have w2 := fun (k' : Nat) (k1 : k' ≠ a) (k2 : k' ≠ a + k) => sw_o (c := d) (i := a) (j := a + k) (by omega) (by omega) k1 k2
    have hmax := heap_max hH
    have hS3 : Shuf a (a + L) c (sw d a (a + k)) := hS.trans (.swap (by omega) (by omega) (by omega))
    have hl3 : (sw d a (a + k)).length = n := by rw [hS3.len]; exact hn
    have hK3 := hK.trans e4
    have hH3 : ∀ i, 0 < i → Hp κ a k (sw d a (a + k)) i := by
      intro i hi q' q1 q2
      rw [w2 _ (by omega) (by omega), w2 _ (by omega) (by omega)]
      exact hH i q' q1 (by omega)
    have hT3 : ∀ p q, p < q → k ≤ q → q < L → κ (g (sw d a (a + k)) (a + p)) ≤ κ (g (sw d a (a + k)) (a + q)) := by
      intro p q' h1 h2 h3
      by_cases e : q' = k
      · subst e
        rw [w1]
        by_cases e0 : p = 0
        · subst e0
          have := hmax q' (by omega)
          rw [Nat.add_zero] at *
          rw [w0]
          exact this
        · rw [w2 _ (by omega) (by omega)]
          exact hmax p (by omega)
      · rw [w2 (a + q') (by omega) (by omega)]
        by_cases e0 : p = 0
        · subst e0
          rw [Nat.add_zero, w0]
          exact hT k q' (by omega) (by omega) h3
        · by_cases e1 : p = k
          · subst e1
            rw [w1]
            exact hT 0 q' (by omega) (by omega) h3
          · rw [w2 (a + p) (by omega) (by omega)]
            exact hT p q' h1 (by omega) h3
    refine L_reg [0, 6, 7, 10] (fun K hK0 => ?_)
    simp [okFn_low]
    have := siftDown_ac D κ r ver 0 k a (sw d a (a + k)) H3 (fun v H' => K [(0, .slice (some r) 0 n ver 1 false), (6, .int .i64 a), (7, .int .i64 0), (10, .int .i64 k)] H') (hC.keep hK3) e3 (hD.perm hS3.1) (by omega) (by omega) (by omega) hH3 (fun H4 m hS4 hH4 hr4 hK4 => ?_)
    · rw [hl3] at this; exact this
    apply hK0; clear hK0 K
    refine L_reg [0, 6, 7, 10] (fun K hK => ?_)
    simp [wrap_i64 (a := (k : Int) - 1) (by omega)]
    apply hK; clear hK K
    refine ⟨k, [.int .i64 ((k : Int) - 1)], by omega, by simp, m, by omega, hS3.trans (hS4.wide (by omega) (by omega)), fun i => hH4 i (by omega), fun p q' h1 h2 h3 => ?_, rfl, hr4, hK3.trans hK4⟩
    rw [hS4.2 (a + q') (by omega)]
    by_cases hp : p < k
    · have := hS4.all (by omega) (p := fun x => κ x ≤ κ (g (sw d a (a + k)) (a + q'))) (fun k' h4 h5 => by
        have := hT3 (k' - a) q' (by omega) h2 h3
        rw [show a + (k' - a) = k' by omega] at this
        exact this) (a + p) (by omega) (by omega)
      exact this
    · rw [hS4.2 (a + p) (by omega)]
      exact hT3 p q' h1 h2 h3
end Go.Proofs.Ytjfmiohgkcjdnaa.Ord

/- Sorting numbers (Brk). -/
namespace Go.Proofs.Ytjfmiohgkcjdnaa.Ord
open Go Go.Proofs.Ytjfmiohgkcjdnaa.AX Go.Proofs.Ytjfmiohgkcjdnaa

set_option maxRecDepth 100000 in
theorem break_ac (r ver a l : Nat) (c : List Int) (H : AH) (Q : AV → AH → Prop) (hr : Rw r ver H c) (hrl : r < H.length) (hlen : c.length ≤ 127) (hl : 12 < l) (hb : a + l ≤ c.length)
    (h : ∀ (H' : AH) (m : List Int), Shuf a (a + l) c m → Rw r ver H' m → KeepX r H H' → Q (.tuple []) H') : AC Try.prog 111 [.slice (some r) 0 c.length ver 1 false, .int .i64 a, .int .i64 (a + l : Nat)] H Q := by
  refine L_body 65 Try.func111 rfl rfl ?_
  have hq : ((l : Int)).tdiv 4 = ((l / 4 : Nat) : Int) := by rw [Int.tdiv_eq_ediv_of_nonneg (by omega)]; rfl
  obtain ⟨q, hq0⟩ : ∃ q, q = l / 4 := ⟨_, rfl⟩
  rw [← hq0] at hq
  obtain ⟨j0, hj0⟩ : ∃ i : Nat, (a : Int) + (q : Int) * 2 = i := ⟨a + q * 2, by omega⟩
  obtain ⟨i0, hi0⟩ : ∃ i : Nat, (j0 : Int) - 1 = i := ⟨j0 - 1, by omega⟩
  generalize hn : c.length = n at *
  refine L_reg [0, 1, 6] (fun K hK => ?_)
  simp [show ((a : Int) + l - a) = l by omega, wrap_i64 (a := (l : Int)) (by omega)]
  apply hK; clear hK K
  refine L_reg [0, 1, 6, 15] (fun K hK => ?_)
  simp
  apply hK; clear hK K
  refine L_true (by simp; omega) ?_
  have hsv : ∀ x : Int, storeV Try.prog 121 (H ++ [AObj.row [.int .u64 0] 0 0 false]) (.ptr H.length 0 0) (.int .u64 x) = some (none, H ++ [.row [.int .u64 x] 0 0 false]) := fun x => store_last sc121 (y := .int .u64 0) rfl rfl
  refine L_reg [0, 1, 6, 7] (fun K hK => ?_)
  simp [cv3121 l (by omega), alloc_z zt121, hsv]
  apply hK; clear hK K
  have hK1 : KeepX r H (H ++ [AObj.row [.int .u64 l] 0 0 false]) := (KeepX.refl r H).ext (.push _ _)
  have hr1 := hr.ext (.push H [AObj.row [.int .u64 l] 0 0 false])
  have hx1 : (H ++ [AObj.row [.int .u64 l] 0 0 false])[H.length]? = some (.row [.int .u64 l] 0 0 false) := by simp
  generalize H ++ [AObj.row [.int .u64 l] 0 0 false] = H1 at hK1 hr1 hx1 ⊢
  generalize hp : H.length = p at *
  have hpl := pow_len (n := l) (by omega) (by omega)
  refine L_reg [0, 1, 6, 7, 8] (fun K hK => ?_)
  simp [okFn_low]
  refine nextPow_ac l H1 _ (by omega) (by omega) ?_
  generalize 2 ^ lenN l = md at hpl ⊢
  simp
  apply hK; clear hK K
  refine L_reg [0, 1, 6, 7, 8, 9] (fun K hK => ?_)
  simp [hq, wrap_i64 (a := (q : Int)) (by omega), wrap_i64 (a := (q : Int) * 2) (by omega), hj0, wrap_i64 (a := (j0 : Int)) (by omega), hi0, wrap_i64 (a := (i0 : Int)) (by omega)]
  apply hK; clear hK K
  refine L_block (L_loopV [9] (fun k vs H' => ∃ (i : Nat) (d : List Int) (x : Int) (s : Nat), k = j0 + 2 - i ∧ i0 ≤ i ∧ i ≤ j0 + 2 ∧ Shuf a (a + l) c d ∧ vs = [.int .i64 i] ∧ Rw r ver H' d ∧ KeepX r H H' ∧ H'[p]? = some (.row [.int .u64 x] 0 s false)) _ [.int .i64 i0] rfl ⟨i0, c, l, 0, rfl, by omega, by omega, .refl _ _ _, rfl, hr1, hK1, hx1⟩ ?_)
  clear hr1 hK1 hx1 H1
  rintro k _ H1 ⟨i, d, x, s, rfl, hi1, hi2, hS, rfl, hrow, hK, hx⟩
  have hdl : d.length = n := by rw [hS.len]; exact hn
  refine L_reg [0, 1, 6, 7, 8, 9, 33] (fun K hK => ?_)
  simp [hq, wrap_i64 (a := (q : Int)) (by omega), wrap_i64 (a := (q : Int) * 2) (by omega), hj0, wrap_i64 (a := (j0 : Int)) (by omega), wrap_i64 (a := (j0 : Int) + 1) (by omega)]
  apply hK; clear hK K
  refine L_dec ((i : Int) ≤ j0 + 1) (by simp) (fun hlt => ?_) (fun hge => L_exit ?_)
  · refine L_block ?_
    refine L_reg [0, 1, 6, 7, 8, 9, 10] (fun K hK0 => ?_)
    simp [okFn_low]
    refine next_ac p s x H1 _ hx (fun y H2 hy hK2 => ?_)
    have hmd : IntKind.u64.wrap ((md : Int) - 1) = ((md - 1 : Nat) : Int) := by rw [wrap_u64 (by omega)]; omega
    obtain ⟨m1, hm1⟩ : ∃ m1 : Nat, md - 1 = m1 := ⟨_, rfl⟩
    rw [hm1] at hmd
    obtain ⟨z, hz, hand⟩ := and_low (P := Try.prog) (t := 101) (l := (litOp (.tmp 36) || litOp (.tmp 38))) y m1 (by omega)
    simp [hmd, hand, cv1013 z (by omega)]
    apply hK0; clear hK0 K
    have hrow2 : Rw r ver H2 d := by
      obtain ⟨s', h'⟩ := hrow
      exact ⟨s', hK2.row (by omega) h'⟩
    have hK12 : KeepX r H H2 := ⟨Nat.le_trans hK.1 hK2.1, fun j j1 j2 => by rw [hK2.2 j (by omega) (by have := hK.1; omega), hK.2 j j1 j2]⟩
    refine L_reg [0, 1, 6, 7, 8, 9, 10, 43] (fun K hK => ?_)
    simp
    apply hK; clear hK K
    refine L_condK [0, 1, 6, 7, 8, 9, 10] (fun e' H' => ∃ o : Nat, o < l ∧ e' = [(0, .slice (some r) 0 n ver 1 false), (1, .int .i64 a), (6, .int .i64 l), (7, .ptr p 0 0), (8, .int .u64 md), (9, .int .i64 i), (10, .int .i64 (o : Nat))] ∧ H2 = H') (t := decide (l ≤ z)) (by simp) (fun ht => ?_) (fun ht => ?_) ?_
    · have hle : l ≤ z := of_decide_eq_true ht
      obtain ⟨o, ho⟩ : ∃ o : Nat, (z : Int) - l = o := ⟨z - l, by omega⟩
      refine L_reg [0, 1, 6, 7, 8, 9, 10] (fun K hK => ?_)
      simp [ho, wrap_i64 (a := (o : Int)) (by omega)]
      apply hK; clear hK K
      exact ⟨o, by omega, by simp, rfl⟩
    · exact ⟨z, by have := of_decide_eq_false ht; omega, by simp, rfl⟩
    rintro _ _ ⟨o, hol, rfl, rfl⟩
    obtain ⟨ib, hib⟩ : ∃ ix : Nat, (a : Int) + o = ix := ⟨a + o, by omega⟩
    have h1 := hrow2.ld (i := i) (by omega)
    have h2 := hrow2.ld (i := ib) (by omega)
    have ga : i < n := by omega
    have gb : ib < n := by omega
    obtain ⟨H3, H4, e1, e2, e3, e4⟩ := hrow2.swap (i := i) (j := ib) (by omega) (by omega)
    refine L_regT mixed [0, 1, 6, 7, 8, 9] (by kernel_rfl) (fun K hK => ?_)
    simp [hib, ga, gb, h1, h2, e1, e2, wrap_i64 (a := (ib : Int)) (by omega)]
    apply hK; clear hK K
    refine L_reg [0, 1, 6, 7, 8, 9] (fun K hK => ?_)
    simp [wrap_i64 (a := (i : Int) + 1) (by omega)]
    apply hK; clear hK K
    exact ⟨j0 + 2 - (i + 1), [.int .i64 (i + 1 : Nat)], by omega, by simp, i + 1, _, y, 0, rfl, by omega, by omega, hS.trans (.swap (by omega) (by omega) (by omega)), rfl, e3, hK12.trans e4, e4.row (by omega) hy⟩
  · exact ⟨.inl rfl, _, rfl, h H1 d hS hrow hK⟩
end Go.Proofs.Ytjfmiohgkcjdnaa.Ord

/- Sorting numbers (Pins). -/
namespace Go.Proofs.Ytjfmiohgkcjdnaa.Ord
open Go Go.Proofs.Ytjfmiohgkcjdnaa.AX Go.Proofs.Ytjfmiohgkcjdnaa

set_option maxRecDepth 100000 in
theorem partial_ac (D : Int → Prop) (κ : Int → Int) (r ver a b : Nat) (c : List Int) (H : AH) (Q : AV → AH → Prop) (hC : CmpO D κ r H) (hr : Rw r ver H c) (hD : All D c) (hl : c.length ≤ 1000000) (hab : a < b) (hb : b ≤ c.length) (hpre : 0 < a → ∀ k, a ≤ k → k < b → κ (g c (a - 1)) ≤ κ (g c k))
    (h : ∀ (H' : AH) (m : List Int) (t : Bool), Shuf a b c m → (t = true → Srt κ a b m) → Rw r ver H' m → KeepX r H H' → Q (.bool t) H') : AC Try.prog 114 [.slice (some r) 0 c.length ver 1 false, .int .i64 a, .int .i64 b] H Q := by
  refine L_body 133 Try.func114 rfl rfl ?_
  generalize hn : c.length = n at *
  refine L_reg [0, 1, 2] (fun K hK => ?_)
  simp
  apply hK; clear hK K
  refine L_reg [0, 1, 2, 7] (fun K hK => ?_)
  simp [wrap_i64 (a := (a : Int) + 1) (by omega)]
  apply hK; clear hK K
  refine L_reg [0, 1, 2, 7, 8] (fun K hK => ?_)
  simp
  apply hK; clear hK K
  refine L_block (L_loopV [7, 8] (fun k vs H' => ∃ (i jj : Nat) (d : List Int), k = 5 - jj ∧ jj ≤ 5 ∧ a ≤ i ∧ i + 1 ≤ b ∧ Shuf a b c d ∧ Srt κ a (i + 1) d ∧ vs = [.int .i64 ((i : Int) + 1), .int .i64 jj] ∧ Rw r ver H' d ∧ KeepX r H H') _ [.int .i64 ((a : Int) + 1), .int .i64 (0 : Nat)] rfl ⟨a, 0, c, rfl, by omega, by omega, by omega, .refl _ _ _, fun p q h1 h2 h3 => by omega, rfl, hr, .refl r H⟩ ?_)
  rintro k _ H1 ⟨i, jj, d, rfl, hjj, hai, hib, hS, hso, rfl, hrow, hK⟩
  refine L_reg [0, 1, 2, 7, 8, 14] (fun K hK => ?_)
  simp
  apply hK; clear hK K
  refine L_dec ((jj : Int) < 5) (by simp) (fun hlt => ?_) (fun hge => L_exit ?_)
  · refine L_block ?_
    have hjl : jj < 5 := by omega
    have hdl : d.length = n := by rw [hS.len]; exact hn
    have hdD := hD.perm hS.1
    have hCk := hC.keep hK
    refine L_blockR (fun e' H' => ∃ (i2 : Nat) (v16 v : AV), i ≤ i2 ∧ i2 + 1 ≤ b ∧ Srt κ a (i2 + 1) d ∧ (i2 + 1 < b → κ (g d (i2 + 1)) < κ (g d i2)) ∧ e' = [(0, .slice (some r) 0 n ver 1 false), (1, .int .i64 a), (2, .int .i64 b), (7, .int .i64 ((i2 : Int) + 1)), (8, .int .i64 (jj : Nat)), (14, v16), (32, v)] ∧ H1 = H') (L_loopV [7] (fun k vs H' => ∃ i2 : Nat, k = b - i2 ∧ i ≤ i2 ∧ i2 + 1 ≤ b ∧ Srt κ a (i2 + 1) d ∧ vs = [.int .i64 ((i2 : Int) + 1)] ∧ H1 = H') _ [.int .i64 ((i : Int) + 1)] rfl ⟨i, rfl, by omega, by omega, hso, rfl, rfl⟩ ?_) ?_
    · rintro k _ _ ⟨i2, rfl, h1, h2, h3, rfl, rfl⟩
      by_cases hc : i2 + 1 < b
      · have hcq : (i2 : Int) + 1 < b := by omega
        have hx := hrow.ld (i := i2 + 1) (by omega)
        have hy := hrow.ld (i := i2) (by omega)
        have hw : IntKind.i64.wrap (i2 : Int) = (i2 : Int) := wrap_i64 (by omega)
        have t1 : ((i2 : Int) + 1).toNat = i2 + 1 := by omega
        have t2 : (0 : Int) ≤ (i2 : Int) + 1 := by omega
        have t3 : (i2 : Int) + 1 < (n : Int) := by omega
        have t4 : i2 < n := by omega
        refine L_regT mixed [0, 1, 2, 7, 8, 14, 32] (by kernel_rfl) (fun K hK => ?_)
        simp [okFn_low, hw, t1, t2, t3, t4, hx, hy, hcq]
        refine exC_mk (fun Q hQ => hCk.2 H1 (.refl _ _) _ _ (hdD (i2 + 1) (by omega)) (hdD i2 (by omega)) Q hQ) ?_
        simp [pickV]
        apply hK; clear hK K
        by_cases hless : κ (g d (i2 + 1)) < κ (g d i2)
        · have := cmpS_neg.2 hless
          refine L_false (by simpa using this) (L_exit ?_)
          exact ⟨i2, _, _, h1, h2, h3, fun _ => hless, rfl, rfl⟩
        · have : ¬ cmpS (κ (g d (i2 + 1))) (κ (g d i2)) < 0 := fun h => hless (cmpS_neg.1 h)
          refine L_true (by simpa using this) ?_
          refine L_block ?_
          refine L_reg [0, 1, 2, 7, 8, 14] (fun K hK => ?_)
          simp [wrap_i64 (a := (i2 : Int) + 1 + 1) (by omega)]
          apply hK; clear hK K
          exact ⟨b - (i2 + 1), [.int .i64 (((i2 + 1 : Nat) : Int) + 1)], by omega, by simp, i2 + 1, rfl, by omega, by omega, h3.more (by omega) (by omega), rfl, rfl⟩
      · have hcq : ¬ (i2 : Int) + 1 < b := by omega
        refine L_regT mixed [0, 1, 2, 7, 8, 14, 32] (by kernel_rfl) (fun K hK => ?_)
        simp [pickV, hcq]
        apply hK; clear hK K
        refine L_false (by simp) (L_exit ?_)
        exact ⟨i2, _, _, h1, h2, h3, fun h => absurd h hc, rfl, rfl⟩
    rintro _ _ ⟨i2, v16, v36, hi2, hi2b, hso2, hstop, rfl, rfl⟩
    clear hso
    refine L_reg [0, 1, 2, 7, 8, 37] (fun K hK => ?_)
    simp
    apply hK; clear hK K
    refine L_split rfl (fun heq => ?_) (fun hne => ?_)
    · have : i2 + 1 = b := by have := eq_of_beq heq; omega
      refine L_reg [6] (fun K hK => ?_)
      simp
      apply hK; clear hK K
      subst this
      exact L_ret ⟨.inr rfl, _, rfl, h H1 d true hS (fun _ => hso2) hrow hK⟩
    have hib2 : i2 + 1 < b := by
      have : ¬ (i2 : Int) + 1 = b := by simpa using hne
      omega
    refine L_reg [0, 1, 2, 7, 8, 41] (fun K hK => ?_)
    simp [wrap_i64 (a := (b : Int) - a) (by omega)]
    apply hK; clear hK K
    refine L_dec ((b : Int) - a < 50) (by simp) (fun h50 => ?_) (fun h50 => ?_)
    · refine L_reg [6] (fun K hK => ?_)
      simp
      apply hK; clear hK K
      exact L_ret ⟨.inr rfl, _, rfl, h H1 d false hS (fun h => by cases h) hrow hK⟩
    have hx := hrow.ld (i := i2 + 1) (by omega)
    have hy := hrow.ld (i := i2) (by omega)
    have hw : IntKind.i64.wrap (i2 : Int) = (i2 : Int) := wrap_i64 (by omega)
    have t1 : ((i2 : Int) + 1).toNat = i2 + 1 := by omega
    have t2 : (0 : Int) ≤ (i2 : Int) + 1 := by omega
    have t3 : (i2 : Int) + 1 < (n : Int) := by omega
    have t4 : i2 < n := by omega
    obtain ⟨H2, H3, e1, e2, e3, e4⟩ := hrow.swap (i := i2 + 1) (j := i2) (by omega) (by omega)
    refine L_regT mixed [0, 1, 2, 7, 8] (by kernel_rfl) (fun K hK => ?_)
    simp [hw, t1, t2, t3, t4, hx, hy, e1, e2]
    apply hK; clear hK K
    have w0 := sw_i (c := d) (i := i2 + 1) (j := i2) (by omega) (by omega)
    have w1 := sw_j (c := d) (i := i2 + 1) (j := i2) (by omega) (by omega)
    have w2 := fun (k : Nat) (k1 : k ≠ i2 + 1) (k2 : k ≠ i2) => sw_o (c := d) (i := i2 + 1) (j := i2) (by omega) (by omega) k1 k2
    have hS3 : Shuf a b c (sw d (i2 + 1) i2) := hS.trans (.swap (by omega) (by omega) (by omega))
    have hole : ∀ p q, a ≤ p → p < q → q ≤ i2 → q ≠ i2 → κ (g (sw d (i2 + 1) i2) p) ≤ κ (g (sw d (i2 + 1) i2) q) := by
      intro p q h1 h2 h3 h4
      rw [w2 p (by omega) (by omega), w2 q (by omega) (by omega)]
      exact hso2 p q h1 h2 (by omega)
    have hK3 := hK.trans e4
    generalize sw d (i2 + 1) i2 = d3 at e3 hS3 hole
    clear w0 w1 w2 e1 e2 hx hy hw t1 t2 t3 t4 hrow hK hdD hCk hdl hS hstop hso2 e4
    clear hlt hne h50
    clear H2
    have hrow := e3
    have hS := hS3
    have hK := hK3
    clear e3 hS3 hK3
    refine L_reg [0, 1, 2, 7, 8, 61] (fun K hK => ?_)
    simp [wrap_i64 (a := (i2 : Int) + 1 - a) (by omega)]
    apply hK; clear hK K
    refine L_condK [0, 1, 2, 7, 8] (fun e' H' => ∃ d : List Int, Shuf a b c d ∧ Srt κ a (i2 + 1) d ∧ Rw r ver H' d ∧ KeepX r H H' ∧ e' = [(0, .slice (some r) 0 n ver 1 false), (1, .int .i64 a), (2, .int .i64 b), (7, .int .i64 ((i2 : Int) + 1)), (8, .int .i64 (jj : Nat))]) (t := decide ((2 : Int) ≤ (i2 : Int) + 1 - a)) (by simp) (fun ht => ?_) (fun ht => ?_) ?_
    · have h2 : (2 : Int) ≤ (i2 : Int) + 1 - a := of_decide_eq_true ht
      refine L_reg [0, 1, 2, 7, 8, 9] (fun K hK => ?_)
      simp [wrap_i64 (a := (i2 : Int)) (by omega)]
      apply hK; clear hK K
      refine L_block (L_loopV [9] (fun k vs H' => ∃ (j : Nat) (d : List Int), k = j ∧ a ≤ j ∧ j ≤ i2 ∧ Shuf a b c d ∧ (∀ p q, a ≤ p → p < q → q ≤ i2 → q ≠ j → κ (g d p) ≤ κ (g d q)) ∧ vs = [.int .i64 j] ∧ Rw r ver H' d ∧ KeepX r H H') _ [.int .i64 i2] rfl ⟨i2, d3, rfl, by omega, by omega, hS, hole, rfl, hrow, hK⟩ ?_)
      clear hS hole hrow hK
      clear d3 H3 d H1
      rintro k _ H1 ⟨j, d, rfl, haj, hji, hS, ho, rfl, hrow, hK⟩
      have hdl : d.length = n := by rw [hS.len]; exact hn
      have hdD := hD.perm hS.1
      have hCk := hC.keep hK
      cases k with
      | zero =>
        refine L_reg [0, 1, 2, 7, 8, 9, 65] (fun K hK => ?_)
        simp
        apply hK; clear hK K
        refine L_false (by simp) (L_exit ?_)
        exact ⟨d, hS, fun p q h1 h2 h3 => ho p q h1 h2 (by omega) (by omega), hrow, hK, rfl⟩
      | succ j =>
        refine L_reg [0, 1, 2, 7, 8, 9, 65] (fun K hK => ?_)
        simp
        apply hK; clear hK K
        refine L_true (by simp; omega) ?_
        refine L_block ?_
        have hx := hrow.ld (i := j + 1) (by omega)
        have hy := hrow.ld (i := j) (by omega)
        have hw : IntKind.i64.wrap (j : Int) = (j : Int) := wrap_i64 (by omega)
        have t1 : ((j : Int) + 1).toNat = j + 1 := by omega
        have t2 : (0 : Int) ≤ (j : Int) + 1 := by omega
        have t3 : (j : Int) + 1 < (n : Int) := by omega
        have t4 : j < n := by omega
        refine L_regT mixed [0, 1, 2, 7, 8, 9, 78] (by kernel_rfl) (fun K hK => ?_)
        simp [okFn_low, hw, t1, t2, t3, t4, hx, hy]
        refine exC_mk (fun Q hQ => hCk.2 H1 (.refl _ _) _ _ (hdD (j + 1) (by omega)) (hdD j (by omega)) Q hQ) ?_
        simp
        apply hK; clear hK K
        by_cases hless : κ (g d (j + 1)) < κ (g d j)
        · have := cmpS_neg.2 hless
          refine L_false (by simpa using this) ?_
          have haj2 : a ≤ j := by
            by_cases e : a ≤ j
            · exact e
            · have ea : a = j + 1 := by omega
              exfalso
              have h5 := hS.all (by omega) (p := fun x => κ (g c (a - 1)) ≤ κ x) (fun k h6 h7 => hpre (by omega) k h6 h7) (j + 1) (by omega) (by omega)
              rw [← hS.2 (a - 1) (by omega), show a - 1 = j by omega] at h5
              have h5 : κ (g d j) ≤ κ (g d (j + 1)) := h5
              omega
          obtain ⟨H2, H3, e1, e2, e3, e4⟩ := hrow.swap (i := j + 1) (j := j) (by omega) (by omega)
          refine L_regT mixed [0, 1, 2, 7, 8, 9] (by kernel_rfl) (fun K hK => ?_)
          simp [hw, t1, t2, t3, t4, hx, hy, e1, e2]
          apply hK; clear hK K
          refine L_reg [0, 1, 2, 7, 8, 9] (fun K hK => ?_)
          simp [hw]
          apply hK; clear hK K
          refine ⟨j, [.int .i64 (j : Nat)], by omega, by simp, j, _, rfl, by omega, by omega, hS.trans (.swap (by omega) (by omega) (by omega)), fun p q h1 h2 h3 h4 => ?_, rfl, e3, hK.trans e4⟩
          have w0 := sw_i (c := d) (i := j + 1) (j := j) (by omega) (by omega)
          have w1 := sw_j (c := d) (i := j + 1) (j := j) (by omega) (by omega)
          have w2 := fun (k : Nat) (k1 : k ≠ j + 1) (k2 : k ≠ j) => sw_o (c := d) (i := j + 1) (j := j) (by omega) (by omega) k1 k2
          by_cases q1 : q = j + 1
          · subst q1
            by_cases p1 : p = j
            · subst p1; rw [w0, w1]; omega
            · rw [w0, w2 p (by omega) p1]
              exact ho p j h1 (by omega) (by omega) (by omega)
          · rw [w2 q q1 h4]
            by_cases p1 : p = j
            · subst p1; rw [w1]
              exact ho (p + 1) q (by omega) (by omega) h3 (by omega)
            · by_cases p2 : p = j + 1
              · subst p2; rw [w0]
                exact ho j q (by omega) (by omega) h3 (by omega)
              · rw [w2 p p2 p1]
                exact ho p q h1 h2 h3 (by omega)
        · have : ¬ cmpS (κ (g d (j + 1))) (κ (g d j)) < 0 := fun h => hless (cmpS_neg.1 h)
          refine L_true (by simpa using this) (L_exit ?_)
          refine ⟨d, hS, fun p q h1 h2 h3 => ?_, hrow, hK, rfl⟩
          by_cases q1 : q = j + 1
          · subst q1
            by_cases p1 : p = j
            · subst p1; omega
            · have := ho p j h1 (by omega) (by omega) (by omega)
              omega
          · exact ho p q h1 h2 (by omega) q1
    · have h2 : ¬ (2 : Int) ≤ (i2 : Int) + 1 - a := of_decide_eq_false ht
      exact ⟨d3, hS, fun p q h1 h2 h3 => by omega, hrow, hK, by simp⟩
    clear hS hole hrow hK
    clear d3 H3 d H1
    rintro _ H1 ⟨d, hS, hso, hrow, hK, rfl⟩
    refine L_reg [0, 1, 2, 7, 8, 98] (fun K hK => ?_)
    simp [wrap_i64 (a := (b : Int) - ((i2 : Int) + 1)) (by omega)]
    apply hK; clear hK K
    refine L_dec ((2 : Int) ≤ (b : Int) - ((i2 : Int) + 1)) (by simp) (fun h2 => ?_) (fun h2 => ?_)
    · refine L_reg [0, 1, 2, 7, 8, 10] (fun K hK => ?_)
      simp [wrap_i64 (a := (i2 : Int) + 1 + 1) (by omega)]
      apply hK; clear hK K
      refine L_blockR (fun e' H' => ∃ (d : List Int) (v12 v x : AV), Shuf a b c d ∧ Srt κ a (i2 + 1) d ∧ Rw r ver H' d ∧ KeepX r H H' ∧ (e' = [(0, .slice (some r) 0 n ver 1 false), (1, .int .i64 a), (2, .int .i64 b), (7, .int .i64 ((i2 : Int) + 1)), (8, .int .i64 (jj : Nat)), (10, v12), (103, v)] ∨ e' = [(0, .slice (some r) 0 n ver 1 false), (1, .int .i64 a), (2, .int .i64 b), (7, .int .i64 ((i2 : Int) + 1)), (8, .int .i64 (jj : Nat)), (10, v12), (116, v)])) (L_loopV [10] (fun k vs H' => ∃ (j : Nat) (d : List Int), k = b - j ∧ i2 + 1 ≤ j ∧ j + 1 ≤ b ∧ Shuf a b c d ∧ Srt κ a (i2 + 1) d ∧ vs = [.int .i64 ((j : Int) + 1)] ∧ Rw r ver H' d ∧ KeepX r H H') _ [.int .i64 ((i2 : Int) + 1 + 1)] rfl ⟨i2 + 1, d, rfl, by omega, by omega, hS, hso, rfl, hrow, hK⟩ ?_) ?_
      · clear hS hso hrow hK
        clear d H1
        rintro k _ H1 ⟨j, d, rfl, h1, h2, hS, hso, rfl, hrow, hK⟩
        have hdl : d.length = n := by rw [hS.len]; exact hn
        have hdD := hD.perm hS.1
        have hCk := hC.keep hK
        refine L_reg [0, 1, 2, 7, 8, 10, 103] (fun K hK => ?_)
        simp
        apply hK; clear hK K
        refine L_dec ((j : Int) + 1 < b) (by simp) (fun hlt => ?_) (fun hge => L_exit ?_)
        · refine L_block ?_
          have hx := hrow.ld (i := j + 1) (by omega)
          have hy := hrow.ld (i := j) (by omega)
          have hw : IntKind.i64.wrap (j : Int) = (j : Int) := wrap_i64 (by omega)
          have t1 : ((j : Int) + 1).toNat = j + 1 := by omega
          have t2 : (0 : Int) ≤ (j : Int) + 1 := by omega
          have t3 : (j : Int) + 1 < (n : Int) := by omega
          have t4 : j < n := by omega
          refine L_regT mixed [0, 1, 2, 7, 8, 10, 116] (by kernel_rfl) (fun K hK => ?_)
          simp [okFn_low, hw, t1, t2, t3, t4, hx, hy]
          refine exC_mk (fun Q hQ => hCk.2 H1 (.refl _ _) _ _ (hdD (j + 1) (by omega)) (hdD j (by omega)) Q hQ) ?_
          simp
          apply hK; clear hK K
          by_cases hless : κ (g d (j + 1)) < κ (g d j)
          · have := cmpS_neg.2 hless
            refine L_false (by simpa using this) ?_
            obtain ⟨H2, H3, e1, e2, e3, e4⟩ := hrow.swap (i := j + 1) (j := j) (by omega) (by omega)
            refine L_regT mixed [0, 1, 2, 7, 8, 10] (by kernel_rfl) (fun K hK => ?_)
            simp [hw, t1, t2, t3, t4, hx, hy, e1, e2]
            apply hK; clear hK K
            refine L_reg [0, 1, 2, 7, 8, 10] (fun K hK => ?_)
            simp [wrap_i64 (a := (j : Int) + 1 + 1) (by omega)]
            apply hK; clear hK K
            refine ⟨b - (j + 1), [.int .i64 (((j + 1 : Nat) : Int) + 1)], by omega, by simp, j + 1, _, rfl, by omega, by omega, hS.trans (.swap (by omega) (by omega) (by omega)), fun p q h1 h2 h3 => ?_, rfl, e3, hK.trans e4⟩
            have w2 := fun (k : Nat) (k1 : k ≠ j + 1) (k2 : k ≠ j) => sw_o (c := d) (i := j + 1) (j := j) (by omega) (by omega) k1 k2
            rw [w2 p (by omega) (by omega), w2 q (by omega) (by omega)]
            exact hso p q h1 h2 h3
          · have : ¬ cmpS (κ (g d (j + 1))) (κ (g d j)) < 0 := fun h => hless (cmpS_neg.1 h)
            refine L_true (by simpa using this) (L_exit ?_)
            exact ⟨d, _, _, .undef, hS, hso, hrow, hK, .inr rfl⟩
        · exact ⟨d, _, _, .undef, hS, hso, hrow, hK, .inl rfl⟩
      clear hS hso hrow hK
      clear d H1
      rintro _ H1 ⟨d, v12, v, -, hS, hso, hrow, hK, rfl | rfl⟩
      · refine L_reg [0, 1, 2, 7, 8] (fun K hK => ?_)
        simp [wrap_i64 (a := (jj : Int) + 1) (by omega)]
        apply hK; clear hK K
        exact ⟨5 - (jj + 1), [.int .i64 ((i2 : Int) + 1), .int .i64 (jj + 1 : Nat)], by omega, by simp, i2, jj + 1, d, rfl, by omega, by omega, by omega, hS, hso, rfl, hrow, hK⟩
      · refine L_reg [0, 1, 2, 7, 8] (fun K hK => ?_)
        simp [wrap_i64 (a := (jj : Int) + 1) (by omega)]
        apply hK; clear hK K
        exact ⟨5 - (jj + 1), [.int .i64 ((i2 : Int) + 1), .int .i64 (jj + 1 : Nat)], by omega, by simp, i2, jj + 1, d, rfl, by omega, by omega, by omega, hS, hso, rfl, hrow, hK⟩
    · refine L_reg [0, 1, 2, 7, 8] (fun K hK => ?_)
      simp [wrap_i64 (a := (jj : Int) + 1) (by omega)]
      apply hK; clear hK K
      exact ⟨5 - (jj + 1), [.int .i64 ((i2 : Int) + 1), .int .i64 (jj + 1 : Nat)], by omega, by simp, i2, jj + 1, d, rfl, by omega, by omega, by omega, hS, hso, rfl, hrow, hK⟩
  · refine L_reg [6] (fun K hK => ?_)
    simp
    apply hK; clear hK K
    exact L_ret ⟨.inr rfl, _, rfl, h H1 d false hS (fun h => by cases h) hrow hK⟩
end Go.Proofs.Ytjfmiohgkcjdnaa.Ord

/- Sorting numbers (Pdq). -/
namespace Go.Proofs.Ytjfmiohgkcjdnaa.Ord
open Go Go.Proofs.Ytjfmiohgkcjdnaa.AX Go.Proofs.Ytjfmiohgkcjdnaa

set_option maxRecDepth 100000 in
theorem pivot_ac' (D : Int → Prop) (κ : Int → Int) (r ver a b l : Nat) (hbl : b = a + l) (c : List Int) (n : Nat) (hn : c.length = n) (H : AH) (Q : AV → AH → Prop) (hC : CmpO D κ r H) (hr : Rw r ver H c) (hrl : r < H.length) (hD : All D c) (hlen : n ≤ 1000000) (hl : 12 < l) (hb : b ≤ n)
    (h : ∀ (H' : AH) (x : Nat) (hint : Int), a ≤ x ∧ x < b → KeepX r H H' → Rw r ver H' c → Q (.tuple [.int .i64 x, .int .i64 hint]) H') : AC Try.prog 112 [.slice (some r) 0 n ver 1 false, .int .i64 a, .int .i64 b] H Q := by
  subst hbl; subst hn; exact pivot_ac D κ r ver a l c H Q hC hr hrl hD hlen hl hb h
set_option maxRecDepth 100000 in
theorem break_ac' (r ver a b l : Nat) (hbl : b = a + l) (c : List Int) (n : Nat) (hn : c.length = n) (H : AH) (Q : AV → AH → Prop) (hr : Rw r ver H c) (hrl : r < H.length) (hlen : n ≤ 127) (hl : 12 < l) (hb : b ≤ n)
    (h : ∀ (H' : AH) (m : List Int), Shuf a b c m → Rw r ver H' m → KeepX r H H' → Q (.tuple []) H') : AC Try.prog 111 [.slice (some r) 0 n ver 1 false, .int .i64 a, .int .i64 b] H Q := by
  subst hbl; subst hn; exact break_ac r ver a l c H Q hr hrl hlen hl hb h
set_option maxRecDepth 100000 in
theorem heapSort_ac' (D : Int → Prop) (κ : Int → Int) (r ver a b l : Nat) (hbl : b = a + l) (c : List Int) (n : Nat) (hn : c.length = n) (H : AH) (Q : AV → AH → Prop) (hC : CmpO D κ r H) (hr : Rw r ver H c) (hD : All D c) (hl : n ≤ 1000000) (hb : b ≤ n) (hl1 : 1 ≤ l)
    (h : ∀ (H' : AH) (m : List Int), Shuf a b c m → Srt κ a b m → Rw r ver H' m → KeepX r H H' → Q (.tuple []) H') : AC Try.prog 110 [.slice (some r) 0 n ver 1 false, .int .i64 a, .int .i64 b] H Q := by
  subst hbl; subst hn; exact heapSort_ac D κ r ver a l c H Q hC hr hD hl hb hl1 h
set_option maxRecDepth 100000 in
theorem partEq_ac' (D : Int → Prop) (κ : Int → Int) (r ver a b pv : Nat) (c : List Int) (n : Nat) (hn : c.length = n) (H : AH) (Q : AV → AH → Prop) (hC : CmpO D κ r H) (hr : Rw r ver H c) (hD : All D c) (hl : n ≤ 1000000) (hpa : a ≤ pv) (hpb : pv < b) (hb : b ≤ n)
    (h : ∀ (H' : AH) (m : List Int) (p : Nat), a < p → p ≤ b → Shuf a b c m → (∀ k, a ≤ k → k < p → κ (g m k) ≤ κ (g c pv)) → (∀ k, p ≤ k → k < b → κ (g c pv) < κ (g m k)) → Rw r ver H' m → KeepX r H H' → Q (.int .i64 p) H') : AC Try.prog 116 [.slice (some r) 0 n ver 1 false, .int .i64 a, .int .i64 b, .int .i64 pv] H Q := by
  subst hn; exact partEq_ac D κ r ver a b pv c H Q hC hr hD hl hpa hpb hb h
set_option maxRecDepth 100000 in
theorem part_ac' (D : Int → Prop) (κ : Int → Int) (r ver a b pv : Nat) (c : List Int) (n : Nat) (hn : c.length = n) (H : AH) (Q : AV → AH → Prop) (hC : CmpO D κ r H) (hr : Rw r ver H c) (hD : All D c) (hl : n ≤ 1000000) (hpa : a ≤ pv) (hpb : pv < b) (hb : b ≤ n)
    (h : ∀ (H' : AH) (m : List Int) (p : Nat) (bb : Bool), a ≤ p → p < b → Shuf a b c m → (∀ k, a ≤ k → k < p → κ (g m k) ≤ κ (g m p)) → (∀ k, p < k → k < b → κ (g m p) ≤ κ (g m k)) → Rw r ver H' m → KeepX r H H' → Q (.tuple [.int .i64 p, .bool bb]) H') : AC Try.prog 117 [.slice (some r) 0 n ver 1 false, .int .i64 a, .int .i64 b, .int .i64 pv] H Q := by
  subst hn; exact part_ac D κ r ver a b pv c H Q hC hr hD hl hpa hpb hb h
set_option maxRecDepth 100000 in
theorem pdq_ac (D : Int → Prop) (κ : Int → Int) (r ver n : Nat) (hn127 : n ≤ 127) : ∀ (N a b lim : Nat) (c : List Int) (H : AH) (Q : AV → AH → Prop), b - a < N → CmpO D κ r H → Rw r ver H c → r < H.length → All D c → c.length = n → a ≤ b → b ≤ n → lim ≤ 1000 → Pre κ a b c →
    (∀ (H' : AH) (m : List Int), Shuf a b c m → Srt κ a b m → Rw r ver H' m → KeepX r H H' → Q (.tuple []) H') → AC Try.prog 98 [.slice (some r) 0 n ver 1 false, .int .i64 a, .int .i64 b, .int .i64 lim] H Q := by
  intro N
  induction N with
  | zero => intro a b lim c H Q h; omega
  | succ N ih =>
  intro a b lim c H Q hN hC hr hrl hD hn hab hb hlim hpre h
  refine L_body 134 Try.func98 rfl rfl ?_
  refine L_reg [0, 1, 2, 3, 8] (fun K hK => ?_)
  simp
  apply hK; clear hK K
  refine L_reg [0, 1, 2, 3, 8, 9] (fun K hK => ?_)
  simp
  apply hK; clear hK K
  refine L_block (L_loopV [1, 2, 3, 8, 9] (fun k vs H' => ∃ (a' b' lm : Nat) (wb wp : Bool) (d : List Int), k = b' - a' ∧ a ≤ a' ∧ a' ≤ b' ∧ b' ≤ b ∧ lm ≤ 1000 ∧ Shuf a b c d ∧ OrdEx κ a b a' b' d ∧ Pre κ a' b' d ∧ vs = [.int .i64 a', .int .i64 b', .int .i64 lm, .bool wb, .bool wp] ∧ Rw r ver H' d ∧ KeepX r H H') _ [.int .i64 a, .int .i64 b, .int .i64 lim, .bool true, .bool true] rfl ⟨a, b, lim, true, true, c, rfl, by omega, hab, by omega, hlim, .refl _ _ _, fun p q h1 h2 h3 h4 => by omega, hpre, rfl, hr, .refl r H⟩ ?_)
  rintro _ _ H1 ⟨a', b', lm, wb, wp, d, rfl, haa, hab', hbb, hlm, hS, hO, hP, rfl, hrow, hK⟩
  refine L_block ?_
  obtain ⟨l, hbl⟩ : ∃ l, b' = a' + l := ⟨b' - a', by omega⟩
  have hdl : d.length = n := by rw [hS.len]; exact hn
  have hdD := hD.perm hS.1
  have hCk := hC.keep hK
  have hr1 : r < H1.length := by have := hK.1; omega
  refine L_reg [0, 1, 2, 3, 8, 9, 10] (fun K hK => ?_)
  simp [show ((b' : Int) - a') = l by omega, wrap_i64 (a := (l : Int)) (by omega)]
  apply hK; clear hK K
  refine L_reg [0, 1, 2, 3, 8, 9, 10, 23] (fun K hK => ?_)
  simp
  apply hK; clear hK K
  refine L_dec ((l : Int) ≤ 12) (by simp) (fun h12 => ?_) (fun h12 => ?_)
  · refine L_reg [] (fun K hK0 => ?_)
    simp [okFn_low]
    have := insertion_ac D κ r ver a' b' d H1 (fun v H' => K [] H') hCk hrow hdD (by omega) (by omega) (by omega) (fun H2 m m1 m2 m3 m4 => ?_)
    · rw [hdl] at this; exact this
    apply hK0; clear hK0 K
    exact L_ret ⟨.inr rfl, _, rfl, h H2 m (hS.trans (m1.wide haa hbb)) ((hO.mix m1 (by omega) haa hbb).srt m2) m3 (hK.trans m4)⟩
  refine L_reg [0, 1, 2, 3, 8, 9, 10, 29] (fun K hK => ?_)
  simp
  apply hK; clear hK K
  refine L_split rfl (fun h0 => ?_) (fun h0 => ?_)
  · refine L_reg [] (fun K hK0 => ?_)
    simp [okFn_low]
    refine heapSort_ac' D κ r ver a' b' l hbl d n hdl H1 _ hCk hrow hdD (by omega) (by omega) (by omega) (fun H2 m m1 m2 m3 m4 => ?_)
    simp
    apply hK0; clear hK0 K
    exact L_ret ⟨.inr rfl, _, rfl, h H2 m (hS.trans (m1.wide haa hbb)) ((hO.mix m1 (by omega) haa hbb).srt m2) m3 (hK.trans m4)⟩
  have hlm0 : 1 ≤ lm := by
    have : (lm : Int) ≠ 0 := by simpa using h0
    omega
  refine L_reg [0, 1, 2, 3, 8, 9, 10, 35] (fun K hK => ?_)
  simp
  apply hK; clear hK K
  refine L_condK [0, 1, 2, 3, 8, 9, 10] (fun e' H' => ∃ (lm : Nat) (d : List Int), lm ≤ 1000 ∧ Shuf a b c d ∧ OrdEx κ a b a' b' d ∧ Pre κ a' b' d ∧ Rw r ver H' d ∧ KeepX r H H' ∧ e' = [(0, .slice (some r) 0 n ver 1 false), (1, .int .i64 a'), (2, .int .i64 b'), (3, .int .i64 (lm : Nat)), (8, .bool wb), (9, .bool wp), (10, .int .i64 l)]) (t := !wb) rfl (fun ht => ?_) (fun ht => ?_) ?_
  · refine L_reg [0, 1, 2, 3, 8, 9, 10] (fun K hK0 => ?_)
    simp [okFn_low]
    refine break_ac' r ver a' b' l hbl d n hdl H1 _ hrow hr1 hn127 (by omega) (by omega) (fun H2 m m1 m3 m4 => ?_)
    simp
    apply hK0; clear hK0 K
    obtain ⟨lm', rfl⟩ : ∃ x, lm = x + 1 := ⟨lm - 1, by omega⟩
    refine L_reg [0, 1, 2, 3, 8, 9, 10] (fun K hK => ?_)
    simp [wrap_i64 (a := (lm' : Int)) (by omega)]
    apply hK; clear hK K
    exact ⟨lm', m, by omega, hS.trans (m1.wide haa hbb), hO.mix m1 (by omega) haa hbb, hP.mix m1 (by omega), m3, hK.trans m4, by simp⟩
  · exact ⟨lm, d, hlm, hS, hO, hP, hrow, hK, by simp⟩
  clear hlm hS hO hP hrow hK hdl hdD hCk hr1 hlm0 h0
  clear d H1 lm
  rintro _ H1 ⟨lm, d, hlm, hS, hO, hP, hrow, hK, rfl⟩
  have hdl : d.length = n := by rw [hS.len]; exact hn
  have hdD := hD.perm hS.1
  have hr1 : r < H1.length := by have := hK.1; omega
  refine L_reg [0, 1, 2, 3, 8, 9, 10, 11, 12] (fun K hK0 => ?_)
  simp [okFn_low]
  refine pivot_ac' D κ r ver a' b' l hbl d n hdl H1 _ (hC.keep hK) hrow hr1 hdD (by omega) (by omega) (by omega) (fun H2 pv hint hpv m4 m3 => ?_)
  simp
  apply hK0; clear hK0 K
  have hK2 := hK.trans m4
  clear hrow hK hr1
  refine L_reg [0, 1, 2, 3, 8, 9, 10, 11, 12, 50] (fun K hK => ?_)
  simp
  apply hK; clear hK K
  refine L_condK [0, 1, 2, 3, 8, 9, 10, 11, 12] (fun e' H' => ∃ (pv : Nat) (hint : Int) (d : List Int), (a' ≤ pv ∧ pv < b') ∧ Shuf a b c d ∧ OrdEx κ a b a' b' d ∧ Pre κ a' b' d ∧ Rw r ver H' d ∧ KeepX r H H' ∧ e' = [(0, .slice (some r) 0 n ver 1 false), (1, .int .i64 a'), (2, .int .i64 b'), (3, .int .i64 lm), (8, .bool wb), (9, .bool wp), (10, .int .i64 l), (11, .int .i64 (pv : Nat)), (12, .int .i64 hint)]) (t := (hint == 2)) rfl (fun ht => ?_) (fun ht => ?_) ?_
  · refine L_reg [0, 1, 2, 3, 8, 9, 10, 11] (fun K hK0 => ?_)
    simp [okFn_low]
    have := reverse_ac r ver a' b' d H2 (fun v H' => K [(0, .slice (some r) 0 n ver 1 false), (1, .int .i64 a'), (2, .int .i64 b'), (3, .int .i64 lm), (8, .bool wb), (9, .bool wp), (10, .int .i64 l), (11, .int .i64 pv)] H') m3 (by omega) (by omega) (by omega) (fun H3 m q1 q3 q4 => ?_)
    · rw [hdl] at this; exact this
    apply hK0; clear hK0 K
    obtain ⟨pv2, hpv2⟩ : ∃ x : Nat, (b' : Int) - 1 - ((pv : Int) - a') = x := ⟨b' - 1 - (pv - a'), by omega⟩
    refine L_reg [0, 1, 2, 3, 8, 9, 10, 11] (fun K hK => ?_)
    simp [wrap_i64 (a := (b' : Int) - 1) (by omega), wrap_i64 (a := (pv : Int) - a') (by omega), hpv2, wrap_i64 (a := (pv2 : Int)) (by omega)]
    apply hK; clear hK K
    refine L_reg [0, 1, 2, 3, 8, 9, 10, 11, 12] (fun K hK => ?_)
    simp
    apply hK; clear hK K
    exact ⟨pv2, 1, m, by omega, hS.trans (q1.wide haa hbb), hO.mix q1 (by omega) haa hbb, hP.mix q1 (by omega), q3, hK2.trans q4, by simp⟩
  · exact ⟨pv, hint, d, hpv, hS, hO, hP, m3, hK2, by simp⟩
  clear hS hO hP hdl hdD m3 m4 hK2 hpv
  clear d H1 H2 pv hint
  rintro _ H1 ⟨pv, hint, d, hpv, hS, hO, hP, hrow, hK, rfl⟩
  have hdl : d.length = n := by rw [hS.len]; exact hn
  have hdD := hD.perm hS.1
  refine L_reg [0, 1, 2, 3, 8, 9, 10, 11, 68] (fun K hK0 => ?_)
  have hK2 : ∀ t : Bool, K [(0, .slice (some r) 0 n ver 1 false), (1, .int .i64 a'), (2, .int .i64 b'), (3, .int .i64 lm), (8, .bool wb), (9, .bool wp), (10, .int .i64 l), (11, .int .i64 pv), (68, .bool t)] H1 := by
    intro t
    refine hK0 _ _ ?_
    clear hK0 K
    refine L_condK [0, 1, 2, 3, 8, 9, 10, 11] (fun e' H' => ∃ (d : List Int), Shuf a b c d ∧ OrdEx κ a b a' b' d ∧ Pre κ a' b' d ∧ Rw r ver H' d ∧ KeepX r H H' ∧ e' = [(0, .slice (some r) 0 n ver 1 false), (1, .int .i64 a'), (2, .int .i64 b'), (3, .int .i64 lm), (8, .bool wb), (9, .bool wp), (10, .int .i64 l), (11, .int .i64 (pv : Nat))]) (t := t) rfl (fun ht => ?_) (fun ht => ?_) ?_
    · refine L_reg [0, 1, 2, 3, 8, 9, 10, 11, 72] (fun K hK0 => ?_)
      simp [okFn_low]
      have := partial_ac D κ r ver a' b' d H1 (fun v H' => K [(0, .slice (some r) 0 n ver 1 false), (1, .int .i64 a'), (2, .int .i64 b'), (3, .int .i64 lm), (8, .bool wb), (9, .bool wp), (10, .int .i64 l), (11, .int .i64 pv), (72, v)] H') (hC.keep hK) hrow hdD (by omega) (by omega) (by omega) hP (fun H3 m t q1 q2 q3 q4 => ?_)
      · rw [hdl] at this; exact this
      apply hK0; clear hK0 K
      cases t with
      | true =>
        refine L_true rfl ?_
        exact L_ret ⟨.inr rfl, _, rfl, h H3 m (hS.trans (q1.wide haa hbb)) ((hO.mix q1 (by omega) haa hbb).srt (q2 rfl)) q3 (hK.trans q4)⟩
      | false =>
        refine L_false rfl ?_
        exact ⟨m, hS.trans (q1.wide haa hbb), hO.mix q1 (by omega) haa hbb, hP.mix q1 (by omega), q3, hK.trans q4, by simp⟩
    · exact ⟨d, hS, hO, hP, hrow, hK, by simp⟩
    clear hS hO hP hrow hK hdl hdD
    clear d H1
    rintro _ H1 ⟨d, hS, hO, hP, hrow, hK, rfl⟩
    have hdl : d.length = n := by rw [hS.len]; exact hn
    have hdD := hD.perm hS.1
    have hCk := hC.keep hK
    refine L_regT mixed [0, 1, 2, 3, 8, 9, 10, 11, 87] (by kernel_rfl) (fun K hK0 => ?_)
    have hK2 : ∀ t : Bool, (t = true → 0 < a' ∧ ¬ κ (g d (a' - 1)) < κ (g d pv)) → K [(0, .slice (some r) 0 n ver 1 false), (1, .int .i64 a'), (2, .int .i64 b'), (3, .int .i64 lm), (8, .bool wb), (9, .bool wp), (10, .int .i64 l), (11, .int .i64 pv), (87, .bool t)] H1 := by
      intro t ht
      refine hK0 _ _ ?_
      clear hK0 K
      refine L_split rfl (fun ht2 => ?_) (fun ht2 => ?_)
      · obtain ⟨hpos, hge⟩ := ht ht2
        have hmin : ∀ k, a' ≤ k → k < b' → κ (g d pv) ≤ κ (g d k) := fun k k1 k2 => Int.le_trans (Int.not_lt.1 hge) (hP hpos k k1 k2)
        refine L_reg [0, 2, 3, 8, 9, 13] (fun K hK0 => ?_)
        simp [okFn_low]
        refine partEq_ac' D κ r ver a' b' pv d n hdl H1 _ hCk hrow hdD (by omega) hpv.1 hpv.2 (by omega) (fun H2 m p p1 p2 m1 m2 m5 m3 m4 => ?_)
        simp
        apply hK0; clear hK0 K
        have hmin2 := m1.all (by omega) (p := fun x => κ (g d pv) ≤ κ x) hmin
        refine L_reg [0, 1, 2, 3, 8, 9] (fun K hK => ?_)
        simp
        apply hK; clear hK K
        refine L_exit ?_
        refine ⟨b' - p, [.int .i64 (p : Nat), .int .i64 b', .int .i64 lm, .bool wb, .bool wp], by omega, by simp, p, b', lm, wb, wp, m, rfl, by omega, by omega, hbb, hlm, hS.trans (m1.wide haa hbb), fun q1 q2 h1 h2 h3 h4 => ?_, fun hp0 k k1 k2 => ?_, rfl, m3, hK.trans m4⟩
        · by_cases e : a' ≤ q1 ∧ q2 < b'
          · have e1 := m2 q1 e.1 (by omega)
            exact Int.le_trans e1 (hmin2 q2 (by omega) e.2)
          · exact (hO.mix m1 (by omega) haa hbb) q1 q2 h1 h2 h3 e
        · exact Int.le_trans (m2 (p - 1) (by omega) (by omega)) (Int.le_of_lt (m5 k k1 k2))
      · clear ht
        refine L_reg [0, 1, 2, 3, 10, 14, 15] (fun K hK0 => ?_)
        simp [okFn_low]
        refine part_ac' D κ r ver a' b' pv d n hdl H1 _ hCk hrow hdD (by omega) hpv.1 hpv.2 (by omega) (fun H2 m p bb p1 p2 m1 m2 m5 m3 m4 => ?_)
        simp
        apply hK0; clear hK0 K
        have hml : m.length = n := by rw [m1.len, hdl]
        have hS2 := hS.trans (m1.wide haa hbb)
        have hO2 := hO.mix m1 (by omega) haa hbb
        have hP2 := hP.mix m1 (by omega)
        have hK3 := hK.trans m4
        have hr3 : r < H2.length := by have := hK3.1; omega
        clear hS hO hP hrow hK hdl hdD hCk m1 m4
        clear hpv ht2 d H1
        refine L_reg [0, 1, 2, 3, 9, 10, 14] (fun K hK => ?_)
        simp
        apply hK; clear hK K
        obtain ⟨ll, hll⟩ : ∃ x : Nat, (p : Int) - a' = x := ⟨p - a', by omega⟩
        obtain ⟨rl, hrl2⟩ : ∃ x : Nat, (b' : Int) - p = x := ⟨b' - p, by omega⟩
        have hq8 : ((l : Int)).tdiv 8 = ((l / 8 : Nat) : Int) := by rw [Int.tdiv_eq_ediv_of_nonneg (by omega)]; rfl
        obtain ⟨q8, hq80⟩ : ∃ q, q = l / 8 := ⟨_, rfl⟩
        rw [← hq80] at hq8
        refine L_reg [0, 1, 2, 3, 9, 10, 14, 16, 17] (fun K hK => ?_)
        simp [hll, hrl2, wrap_i64 (a := (ll : Int)) (by omega), wrap_i64 (a := (rl : Int)) (by omega)]
        apply hK; clear hK K
        refine L_reg [0, 1, 2, 3, 9, 14, 16, 17, 18] (fun K hK => ?_)
        simp [hq8, wrap_i64 (a := (q8 : Int)) (by omega)]
        apply hK; clear hK K
        refine L_reg [0, 1, 2, 3, 9, 14, 16, 17, 18, 113] (fun K hK => ?_)
        simp
        apply hK; clear hK K
        refine L_dec (ll < rl) (by simp) (fun hlr => ?_) (fun hlr => ?_)
        · refine L_reg [0, 1, 2, 3, 8, 9, 14] (fun K hK => ?_)
          simp
          apply hK; clear hK K
          refine L_reg [0, 2, 3, 8, 9, 14] (fun K hK0 => ?_)
          simp [okFn_low]
          refine ih a' p lm m H2 _ (by omega) (hC.keep hK3) m3 hr3 (hD.perm hS2.1) hml p1 (by omega) hlm (fun h0 k k1 k2 => hP2 h0 k k1 (by omega)) (fun H3 m' s1 s2 s3 s4 => ?_)
          simp
          apply hK0; clear hK0 K
          refine L_reg [0, 1, 2, 3, 8, 9] (fun K hK => ?_)
          simp [wrap_i64 (a := (p : Int) + 1) (by omega)]
          apply hK; clear hK K
          have hm5 := s1.all (by omega) (p := fun x => κ x ≤ κ (g m p)) m2
          have hpm : g m' p = g m p := s1.2 p (by omega)
          refine ⟨b' - (p + 1), [.int .i64 (p + 1 : Nat), .int .i64 b', .int .i64 lm, .bool (decide (q8 ≤ ll)), .bool bb], by omega, by simp, p + 1, b', lm, decide (q8 ≤ ll), bb, m', rfl, by omega, by omega, hbb, hlm, hS2.trans (s1.wide haa (by omega)), fun q1 q2 h1 h2 h3 h4 => ?_, fun hp0 k k1 k2 => ?_, rfl, s3, hK3.trans s4⟩
          · by_cases e : a' ≤ q1 ∧ q2 < b'
            · by_cases e2 : q2 < p
              · exact s2 q1 q2 e.1 h2 e2
              · by_cases e3 : q2 = p
                · subst e3; rw [hpm]; exact hm5 q1 e.1 (by omega)
                · have e4 : κ (g m p) ≤ κ (g m' q2) := by rw [s1.2 q2 (by omega)]; exact m5 q2 (by omega) e.2
                  by_cases e5 : q1 = p
                  · rw [e5, hpm]; exact e4
                  · exact Int.le_trans (hm5 q1 e.1 (by omega)) e4
            · exact (hO2.mix (s1.wide (Nat.le_refl _) (by omega)) (by omega) haa hbb) q1 q2 h1 h2 h3 e
          · rw [show p + 1 - 1 = p by omega, hpm, s1.2 k (by omega)]
            exact m5 k (by omega) k2
        · refine L_reg [0, 1, 2, 3, 8, 9, 14] (fun K hK => ?_)
          simp
          apply hK; clear hK K
          refine L_reg [0, 1, 3, 8, 9, 14] (fun K hK0 => ?_)
          simp [okFn_low, wrap_i64 (a := (p : Int) + 1) (by omega)]
          refine ih (p + 1) b' lm m H2 _ (by omega) (hC.keep hK3) m3 hr3 (hD.perm hS2.1) hml (by omega) (by omega) hlm (fun h0 k k1 k2 => by rw [show p + 1 - 1 = p by omega]; exact m5 k (by omega) k2) (fun H3 m' s1 s2 s3 s4 => ?_)
          simp
          apply hK0; clear hK0 K
          refine L_reg [0, 1, 2, 3, 8, 9] (fun K hK => ?_)
          simp
          apply hK; clear hK K
          have hm5 := s1.all (by omega) (p := fun x => κ (g m p) ≤ κ x) (fun k k1 k2 => m5 k (by omega) k2)
          have hpm : g m' p = g m p := s1.2 p (by omega)
          refine ⟨p - a', [.int .i64 a', .int .i64 (p : Nat), .int .i64 lm, .bool (decide (q8 ≤ rl)), .bool bb], by omega, by simp, a', p, lm, decide (q8 ≤ rl), bb, m', rfl, by omega, by omega, by omega, hlm, hS2.trans (s1.wide (by omega) hbb), fun q1 q2 h1 h2 h3 h4 => ?_, fun hp0 k k1 k2 => ?_, rfl, s3, hK3.trans s4⟩
          · by_cases e : a' ≤ q1 ∧ q2 < b'
            · by_cases e2 : p < q1
              · exact s2 q1 q2 (by omega) h2 e.2
              · by_cases e3 : q1 = p
                · subst e3; rw [hpm]; exact hm5 q2 (by omega) e.2
                · have e4 : κ (g m' q1) ≤ κ (g m p) := by rw [s1.2 q1 (by omega)]; exact m2 q1 e.1 (by omega)
                  by_cases e5 : q2 = p
                  · rw [e5, hpm]; exact e4
                  · exact Int.le_trans e4 (hm5 q2 (by omega) e.2)
            · exact (hO2.mix (s1.wide (by omega) (Nat.le_refl _)) (by omega) haa hbb) q1 q2 h1 h2 h3 e
          · rw [s1.2 k (by omega), s1.2 (a' - 1) (by omega)]
            exact hP2 hp0 k k1 (by omega)
    by_cases hpos : 0 < a'
    · obtain ⟨a0, ha0⟩ : ∃ a0 : Nat, (a' : Int) - 1 = a0 := ⟨a' - 1, by omega⟩
      have ha0n : a' - 1 = a0 := by omega
      have hx := hrow.ld (i := a0) (by omega)
      have hy := hrow.ld (i := pv) (by omega)
      have t1 : a0 < n := by omega
      have t2 : pv < n := by omega
      simp [okFn_low, hpos, ha0, t1, t2, hx, hy, wrap_i64 (a := (a0 : Int)) (by omega)]
      refine exC_mk (fun Q hQ => hCk.2 H1 (.refl _ _) _ _ (hdD a0 (by omega)) (hdD pv (by omega)) Q hQ) ?_
      simp [pickV]
      refine hK2 _ (fun ht => ⟨hpos, fun h => ?_⟩)
      rw [ha0n] at h
      have := cmpS_neg.2 h
      simp at ht
      omega
    · have ha0 : a' = 0 := by omega
      subst ha0
      simp [pickV]
      exact hK2 false (fun h => by cases h)
  cases wb <;> cases wp <;> simp [pickV] <;> exact hK2 _
end Go.Proofs.Ytjfmiohgkcjdnaa.Ord

/- slices.Sorted of a list's values. -/
namespace Go.Proofs.Ytjfmiohgkcjdnaa
open Go Go.Proofs.Ytjfmiohgkcjdnaa.AX

theorem Less_ac (a b : Int) (H : AH) (Q : AV → AH → Prop) (h : Q (.bool (decide (a < b))) H) : AC Try.prog 115 [.int .i64 a, .int .i64 b] H Q := by
  refine L_body 17 Try.func115 rfl rfl ?_
  refine L_reg [0, 1] (fun K hK => ?_)
  simp
  apply hK; clear hK K
  refine L_reg [4] (fun K hK => ?_)
  simp [okFn_low]
  refine isNaN_ac a _ _ ?_
  simp [pickV]
  apply hK; clear hK K
  exact L_ret ⟨.inr rfl, _, rfl, by simpa using h⟩
theorem lessO (r : Nat) (H : AH) : Ord.CmpO (fun _ => True) (fun x => x) r H := by
  refine ⟨trivial, fun H' _ x y _ _ Q h => Less_ac x y H' Q ?_⟩
  have : decide (cmpS x y < 0) = decide (x < y) := by rw [decide_eq_decide]; exact cmpS_neg
  rw [this] at h; exact h
set_option maxRecDepth 100000 in
theorem Sort_ac (r ver : Nat) (c : List Int) (n : Nat) (hn : c.length = n) (H : AH) (Q : AV → AH → Prop) (hr : Rw r ver H c) (hrl : r < H.length) (hl : n ≤ 127)
    (h : ∀ (H' : AH) (m : List Int), m.Perm c → Srt (fun x => x) 0 n m → Rw r ver H' m → KeepX r H H' → Q (.tuple []) H') : AC Try.prog 91 [.slice (some r) 0 n ver 1 false] H Q := by
  refine L_body 11 Try.func91 rfl rfl ?_
  refine L_reg [0, 2] (fun K hK => ?_)
  simp
  apply hK; clear hK K
  refine L_reg [] (fun K hK0 => ?_)
  simp [okFn_low, cv3101 n (by omega)]
  refine Len_ac n H _ (by omega) ?_
  simp [okFn_low]
  have h7 : lenN n ≤ 7 := by
    unfold lenN
    repeat' split
    all_goals first | decide | omega
  have := Ord.pdq_ac (fun _ => True) (fun x => x) r ver n hl (n + 1) 0 n (lenN n) c H (fun v H' => K [] H') (by omega) (lessO r H) hr hrl (fun _ _ => trivial) hn (by omega) (Nat.le_refl _) (by omega) (fun h0 => by omega) (fun H2 m s1 s2 s3 s4 => ?_)
  · exact this
  apply hK0; clear hK0 K
  exact ⟨.inl rfl, _, rfl, h H2 m s1.1 s2 s3 s4⟩
/-- All of a list is yielded. -/
theorem vals_ac (r pb : Nat) (l : List Int) (v : AV) (J : Nat → AH → Prop) (H : AH) (Q : AV → AH → Prop) (hlen : l.length ≤ 1000000) (hpb : ld H pb 0 0 = some v) (hJ : ∀ i H', J i H' → Ls H' v l)
    (hs : ∀ i (hi : i < l.length) H', J i H' → AYld Try.prog r [.int .i64 l[i]] H' fun u H2 => u = .bool true ∧ J (i + 1) H2) (h0 : J 0 H) (h : ∀ H', J l.length H' → Q (.tuple []) H') : AC Try.prog 92 [.yld r, .ptr pb 0 0] H Q := by
  obtain ⟨r2, off, ver, sz, full, rfl, -⟩ := hJ _ _ h0
  refine L_body 16 Try.func92 rfl rfl ?_
  refine L_reg [0, 5, 6, 7] (fun K hK => ?_)
  simp [hpb]
  apply hK; clear hK K
  refine L_block (L_loopV [7] (fun k vs H' => ∃ i : Nat, k = l.length - i ∧ i ≤ l.length ∧ vs = [.int .i64 i] ∧ J i H') _ [.int .i64 0] rfl ⟨0, rfl, by omega, rfl, h0⟩ ?_)
  rintro k _ H1 ⟨i, rfl, hi, rfl, hk1⟩
  refine L_reg [0, 5, 6, 7, 8] (fun K hK => ?_)
  simp
  apply hK; clear hK K
  refine L_dec (i < l.length) (by simp) (fun hlt => ?_) (fun hge => L_exit ?_)
  · refine L_block ?_
    obtain ⟨r2', off', ver', sz', full', he, hld⟩ := hJ _ _ hk1
    cases he
    obtain ⟨r3, rfl, rfl, hrd⟩ := hld i hlt
    refine L_reg [0, 4, 5, 6, 7] (fun K hK => ?_)
    simp [hrd, hlt]
    apply hK; clear hK K
    refine L_reg [0, 5, 6, 7, 14] (fun K hK => ?_)
    simp
    refine (hs i hlt H1 hk1).mono ?_
    rintro u H2 ⟨rfl, hJ2⟩
    simp
    apply hK; clear hK K
    refine L_false rfl ?_
    refine L_reg [0, 5, 6, 7] (fun K hK => ?_)
    simp [wrap_i64 (a := (i : Int) + 1) (by omega)]
    apply hK; clear hK K
    exact ⟨l.length - (i + 1), [.int .i64 (i + 1 : Nat)], by omega, by simp, i + 1, rfl, by omega, rfl, hJ2⟩
  · have : i = l.length := by omega
    subst this
    exact ⟨.inl rfl, _, rfl, h _ hk1⟩
theorem values_ac (v : AV) (hv : v.one = true) (H : AH) (Q : AV → AH → Prop) (h : Q (.func (.func 92) [] [.ptr H.length 0 0]) (H ++ [.row [v] 0 0 false])) : AC Try.prog 82 [v] H Q := by
  refine L_body 4 Try.func82 rfl rfl ?_
  have h1 : v.isU = false := by cases v <;> first | rfl | (simp [AV.one] at hv)
  have h2 : acells v = [v] := by cases v <;> first | rfl | (simp [AV.one] at hv)
  refine L_reg [1] (fun K hK => ?_)
  simp [h1, h2]
  apply hK; clear hK K
  refine L_reg [2] (fun K hK => ?_)
  simp
  apply hK; clear hK K
  exact L_ret ⟨.inr rfl, _, rfl, h⟩
theorem OwnF.offs {N p : Nat} {H : AH} {v : AV} {l : List AV} (h : OwnF N H v l) (hp : p < N) (o : AObj) : OwnF N (H.set p o) v l := by
  rcases h with h | ⟨r, ver, st, g1, g2, g3⟩
  · exact .inl h
  · exact .inr ⟨r, ver, st, g1, g2, by rw [set_ne (by omega)]; exact g3⟩
theorem ext_take (H : AH) (N : Nat) (h : N ≤ H.length) : Ext (H.take N) H := ⟨by simp; omega, fun j hj => by simp at hj; rw [List.getElem?_take_of_lt (by omega)]⟩
set_option maxRecDepth 100000 in
/-- The values of a list, appended to nothing. -/
theorem AppendSeq_ac (l : List Int) (v : AV) (pb : Nat) (H : AH) (Q : AV → AH → Prop) (hlen : l.length ≤ 1000) (hpb : H[pb]? = some (.row [v] 0 0 false)) (hv : Ls H v l)
    (h : ∀ u H', OwnF H.length H' u (l.map (.int .i64)) → Ext H H' → Q u H') : AC Try.prog 97 [.slice none 0 0 0 1 false, .func (.func 92) [] [.ptr pb 0 0]] H Q := by
  refine L_body 13 Try.func97 rfl rfl ?_
  refine L_reg [1, 2, 5] (fun K hK => ?_)
  simp [AV.isU, acells]
  apply hK; clear hK K
  have hE := Ext.push H [AObj.row [.slice none 0 0 0 1 false] 0 0 false]
  have r1 : (H ++ [AObj.row [.slice none 0 0 0 1 false] 0 0 false])[H.length]? = some (.row [.slice none 0 0 0 1 false] 0 0 false) := by simp
  have hlt1 : (H ++ [AObj.row [.slice none 0 0 0 1 false] 0 0 false]).length = H.length + 1 := by simp
  generalize H ++ [AObj.row [.slice none 0 0 0 1 false] 0 0 false] = H3 at hE r1 hlt1 ⊢
  generalize hp : H.length = p at *
  refine L_reg [2, 5, 6] (fun K hK => ?_)
  simp
  apply hK; clear hK K
  refine L_block (L_range [2, 5] rfl (okFn_low (by omega) (by omega)) ?_)
  generalize hL : (⟨13, _, _, _, _⟩ : LR) = L
  have hnt : L.nt = 13 := by rw [← hL]
  have hps : L.ps = #[7] := by rw [← hL]
  have hass := congrArg LR.assign hL.symm
  have he : L.e = [(2, .ptr p 0 0)] := by rw [← hL]; rfl
  have hbody := congrArg LR.body hL.symm
  clear hL
  have hr0 : (H3 ++ [AObj.loop .ready .normal L])[H3.length]? = some (.loop .ready .normal L) := by simp
  have hin : ∀ j, j < H3.length → (H3 ++ [AObj.loop .ready .normal L])[j]? = H3[j]? := fun j hj => List.getElem?_append_left hj
  have hpb3 := hE.row hpb
  have hpbl : pb < p := by rw [← hp]; exact (List.getElem?_eq_some_iff.1 hpb).1
  have hvL : ∀ H' : AH, H3.length < H'.length → (∀ j, j < H3.length → j ≠ p → H'[j]? = H3[j]?) → Ext H H' := fun H' h1 h2 => ⟨by omega, fun j hj => by rw [h2 j (by omega) (by omega), hE.2 j (by omega)]⟩
  have hkv : known [v][0]? = some v := by obtain ⟨r2, off, ver, sz, full, rfl, -⟩ := hv; rfl
  refine vals_ac H3.length pb l v (fun i H' => i ≤ l.length ∧ H3.length < H'.length ∧ (∃ u, H'[p]? = some (.row [u] 0 0 false) ∧ OwnF (H3.length + 1) H' u ((l.take i).map (.int .i64))) ∧
      (∀ j, j < H3.length → j ≠ p → H'[j]? = H3[j]?) ∧ H'[H3.length]? = some (.loop .ready .normal L)) _ _ (by omega) (by rw [ld_row ((hin pb (by omega)).trans hpb3)]; exact hkv) ?_ ?_ ?_ ?_
  · rintro i H' ⟨g1, g2, g3, g4, g5⟩
    exact hv.ext (hvL H' g2 g4)
  · rintro i hi H' ⟨g1, g2, ⟨u, g3, g3'⟩, g4, g5⟩
    refine AYld_mkA g5 (by rw [hps]; rfl) (by rw [hps, hnt]; simp) ?_
    rw [hnt, hps, he, hass]
    refine L_reg [2, 5] (fun K hK => ?_)
    simp [psEnv]
    apply hK; clear hK K
    refine ⟨rfl, .normal, L, g5, ?_⟩
    rw [hbody]
    generalize hHb : H'.set H3.length (.loop .busy .normal L) = Hb
    have hOff : ∀ j, j ≠ H3.length → Hb[j]? = H'[j]? := fun j hj => by rw [← hHb, set_ne (Ne.symm hj)]
    have hlb : Hb.length = H'.length := by rw [← hHb]; simp
    have c0 : Hb[p]? = _ := (hOff _ (by omega)).trans g3
    have br : Hb[H3.length]? = some (.loop .busy .normal L) := by rw [← hHb, List.getElem?_set_self (by omega)]
    have hO0 : OwnF (Hb.take (H3.length + 1)).length Hb u ((l.take i).map (.int .i64)) := by
      rw [List.length_take, Nat.min_eq_left (by omega)]
      rcases g3' with g | ⟨r, ver, st, k1, k2, k3⟩
      · exact .inl g
      · exact .inr ⟨r, ver, st, k1, k2, by rw [hOff _ (by omega)]; exact k3⟩
    obtain ⟨u', H4, happ, hO4, hE4⟩ := ownF_append (ext_take Hb (H3.length + 1) (by omega)) el36 el36 (x := .int .i64 l[i]) (m := 1) hO0 rfl (by simp; omega)
    have hlt4 : (Hb.take (H3.length + 1)).length = H3.length + 1 := by rw [List.length_take, Nat.min_eq_left (by omega)]
    rw [hlt4] at hO4
    have hk4 : ∀ j, j < H3.length + 1 → H4[j]? = Hb[j]? := fun j hj => by rw [hE4.2 j (by omega), List.getElem?_take_of_lt hj]
    have hl4 : H3.length + 1 ≤ H4.length := by have := hE4.1; omega
    have c4 := (hk4 p (by omega)).trans c0
    obtain ⟨ru, verU, hu⟩ := hO4.len
    obtain ⟨ru0, verU0, hu0⟩ := hO0.len
    have hst := store_row (P := Try.prog) (u := 36) (p := 0) sc36 (x := u') (y := u) (by rw [hu]; rfl) c4 (by rw [hu0]; rfl)
    have e1 : ld Hb p 0 0 = some u := by rw [ld_row c0, hu0]; rfl
    refine L_block ?_
    refine L_reg [] (fun K hK => ?_)
    simp [e1, happ, hst]
    apply hK; clear hK K
    refine ⟨.busy, .normal, L, by rw [set_ne (by omega), hk4 _ (by omega)]; exact br, rfl, by omega, by simp; omega, ⟨u', ?_, ?_⟩, fun j hj1 hj2 => ?_, ?_⟩
    · rw [set_ne (by omega), get_set c4]
    · rw [show l.take (i + 1) = l.take i ++ [l[i]] by rw [List.take_append_getElem]]
      rw [List.map_append]
      exact OwnF.offs (OwnF.offs hO4 (by omega) _) (by omega) _
    · rw [set_ne (by omega), set_ne (by omega), hk4 j (by omega), hOff _ (by omega), g4 _ hj1 hj2]
    · simp only [if_true]
      rw [List.getElem?_set_self (by simp; omega)]
  · refine ⟨by omega, by simp, ⟨_, (hin _ (by omega)).trans r1, .nil _ _⟩, fun j h1 _ => hin j h1, hr0⟩
  · rintro H' ⟨g1, g2, ⟨u, g3, g3'⟩, g4, g5⟩
    refine ⟨.ready, .normal, L, g5, by simp, ?_⟩
    show AWL _ _ _ _ _ _
    obtain ⟨ru, verU, hu⟩ := g3'.len
    have k0 : (H'.set H3.length (.loop .exhausted .normal L))[p]? = _ := (set_ne (by omega)).trans g3
    have e1 : ld (H'.set H3.length (.loop .exhausted .normal L)) p 0 0 = some u := by rw [ld_row k0, hu]; rfl
    refine L_reg [4] (fun K hK => ?_)
    simp [e1]
    apply hK; clear hK K
    rw [List.take_length] at g3'
    exact L_ret ⟨.inr rfl, _, rfl, h u _ ((OwnF.offs g3' (by omega) _).mono (by omega)) ((hvL H' g2 g4).set _ (by omega))⟩
theorem Collect_ac (l : List Int) (v : AV) (pb : Nat) (H : AH) (Q : AV → AH → Prop) (hlen : l.length ≤ 1000) (hpb : H[pb]? = some (.row [v] 0 0 false)) (hv : Ls H v l)
    (h : ∀ u H', OwnF H.length H' u (l.map (.int .i64)) → Ext H H' → Q u H') : AC Try.prog 90 [.func (.func 92) [] [.ptr pb 0 0]] H Q := by
  refine L_body 5 Try.func90 rfl rfl ?_
  refine L_reg [0] (fun K hK => ?_)
  simp
  apply hK; clear hK K
  refine L_reg [2] (fun K hK => ?_)
  simp [okFn_low]
  refine AppendSeq_ac l v pb H _ hlen hpb hv (fun u H' h1 h2 => ?_)
  simp
  apply hK; clear hK K
  exact L_ret ⟨.inr rfl, _, rfl, h u H' h1 h2⟩
/-- A list of at most 127 numbers, sorted. -/
theorem Sorted_ac (l : List Int) (v : AV) (pb : Nat) (H : AH) (Q : AV → AH → Prop) (h1 : 1 ≤ l.length) (hlen : l.length ≤ 127) (hpb : H[pb]? = some (.row [v] 0 0 false)) (hv : Ls H v l)
    (h : ∀ u H' (m : List Int), m.Perm l → m.Pairwise (· ≤ ·) → OwnF H.length H' u (m.map (.int .i64)) → Ext H H' → Q u H') : AC Try.prog 81 [.func (.func 92) [] [.ptr pb 0 0]] H Q := by
  refine L_body 9 Try.func81 rfl rfl ?_
  refine L_reg [0] (fun K hK => ?_)
  simp
  apply hK; clear hK K
  refine L_reg [3] (fun K hK => ?_)
  simp [okFn_low]
  refine Collect_ac l v pb H _ (by omega) hpb hv (fun u H1 hO hE => ?_)
  simp
  apply hK; clear hK K
  rcases hO with ⟨g1, -⟩ | ⟨r, ver, st, g1, rfl, g3⟩
  · have : l = [] := by simpa using g1
    subst this; simp at h1
  rw [List.length_map]
  refine L_reg [3] (fun K hK => ?_)
  simp [okFn_low]
  refine Sort_ac r ver l l.length rfl H1 _ ⟨st, g3⟩ (List.getElem?_eq_some_iff.1 g3).1 hlen (fun H2 m hp hs hr hK2 => ?_)
  simp
  apply hK; clear hK K
  refine L_reg [2] (fun K hK => ?_)
  simp
  apply hK; clear hK K
  obtain ⟨st2, hr⟩ := hr
  have hml := hp.length_eq
  have hsort : m.Pairwise (· ≤ ·) := List.pairwise_iff_getElem.2 fun i j hi hj hij => by
    have := hs i j (by omega) hij (by omega)
    rw [g_lt hi, g_lt hj] at this
    exact this
  exact L_ret ⟨.inr rfl, _, rfl, h _ H2 m hp hsort (.inr ⟨r, ver, st2, g1, by rw [List.length_map, hml]; rfl, hr⟩) ⟨Nat.le_trans hE.1 hK2.1, fun j hj => by rw [hK2.2 j (by omega) (by have := hE.1; omega), hE.2 j hj]⟩⟩
end Go.Proofs.Ytjfmiohgkcjdnaa
