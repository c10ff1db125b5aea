/- Sorting numbers (Heap2). -/
import Derived.Test.YtcidcihpkdoejaaOHeap
namespace Go.Proofs.Ytcidcihpkdoejaa.Ord
open Go Go.Proofs.Ytcidcihpkdoejaa.AX Go.Proofs.Ytcidcihpkdoejaa
variable {sb : Bool} {tl : List AV}

set_option maxRecDepth 100000 in
theorem heapSort_ac (D : Int → Prop) (κ : Int → Int) (r ver a l : Nat) (c : List Int) (H : AH) (Q : AV → AH → Prop) (hC : CmpO D κ r H) (hr : Rw tl r ver H c) (hD : All D c) (hl : c.length ≤ 1000000) (hb : a + l ≤ c.length) (hl1 : 1 ≤ l)
    (h : ∀ (H' : AH) (m : List Int), Shuf a (a + l) c m → Srt κ a (a + l) m → Rw tl r ver H' m → KeepX r H H' → Q (.tuple []) H') : AC Try.prog 94 [SV sb r 0 c.length ver, .int .i64 a, .int .i64 (a + l : Nat)] H Q := by
  refine L_body 56 Try.func94 rfl rfl ?_
  refine L_reg [0, 1, 2, 6] (fun K hK => ?_)
  simp
  apply hK; clear hK K
  refine L_reg [0, 1, 2, 6, 7] (fun K hK => ?_)
  simp
  apply hK; clear hK K
  refine L_reg [0, 6, 7, 8] (fun K hK => ?_)
  simp [show ((a : Int) + l - a) = l by omega, wrap_i64 (a := (l : Int)) (by omega)]
  apply hK; clear hK K
  obtain ⟨l0, rfl⟩ : ∃ l0, l = l0 + 1 := ⟨l - 1, by omega⟩
  generalize hL : l0 + 1 = L at *
  have hdiv : ((l0 : Int)).tdiv 2 = ((l0 / 2 : Nat) : Int) := by rw [Int.tdiv_eq_ediv_of_nonneg (by omega)]; rfl
  obtain ⟨q, hq⟩ : ∃ q, q = l0 / 2 := ⟨_, rfl⟩
  rw [← hq] at hdiv
  have hL1 : (L : Int) - 1 = l0 := by omega
  refine L_reg [0, 6, 7, 8, 9] (fun K hK => ?_)
  simp [hL1, hdiv, wrap_i64 (a := (l0 : Int)) (by omega), wrap_i64 (a := (q : Int)) (by omega)]
  apply hK; clear hK K
  generalize hn : c.length = n at *
  refine L_blockR (fun e' H' => ∃ (d : List Int) (v11 v21 : AV), Shuf a (a + L) c d ∧ (∀ i, Hp κ a L d i) ∧ Rw tl r ver H' d ∧ KeepX r H H' ∧ e' = [(0, SV sb r 0 n ver), (6, .int .i64 a), (7, .int .i64 0), (8, .int .i64 L), (9, v11), (19, v21)]) (L_loopV [9] (fun k vs H' => ∃ d : List Int, k ≤ q + 1 ∧ Shuf a (a + L) c d ∧ (∀ i, k ≤ i → Hp κ a L d i) ∧ vs = [.int .i64 ((k : Int) - 1)] ∧ Rw tl r ver H' d ∧ KeepX r H H') (q + 1) [.int .i64 q] rfl ⟨c, by omega, .refl _ _ _, fun i hi q1 q2 q3 => by omega, by simp, hr, .refl r H⟩ ?_) ?_
  · rintro k _ H1 ⟨d, hk, hS, hH, rfl, hrow, hK⟩
    have hdl : d.length = n := by rw [hS.len]; exact hn
    cases k with
    | zero =>
      refine L_reg [0, 6, 7, 8, 9, 19] (fun K hK => ?_)
      simp
      apply hK; clear hK K
      refine L_false (by simp) (L_exit ?_)
      exact ⟨d, _, _, hS, fun i => hH i (by omega), hrow, hK, rfl⟩
    | succ k =>
      have hk1 : (k : Int) + 1 - 1 = k := by omega
      refine L_reg [0, 6, 7, 8, 9, 19] (fun K hK => ?_)
      simp
      apply hK; clear hK K
      refine L_true (by simp) ?_
      refine L_block ?_
      refine L_reg [0, 6, 7, 8, 9] (fun K hK0 => ?_)
      simp [okFn_low]
      have := siftDown_ac (sb := sb) D κ r ver k L a d H1 (fun v H' => K [(0, SV sb r 0 n ver), (6, .int .i64 a), (7, .int .i64 0), (8, .int .i64 L), (9, .int .i64 k)] H') (hC.keep hK) hrow (hD.perm hS.1) (by omega) (by omega) (by omega) (fun i hi => hH i (by omega)) (fun H2 m hS2 hH2 hr2 hK2 => ?_)
      · rw [hdl] at this; exact this
      apply hK0; clear hK0 K
      refine L_reg [0, 6, 7, 8, 9] (fun K hK => ?_)
      simp [wrap_i64 (a := (k : Int) - 1) (by omega)]
      apply hK; clear hK K
      exact ⟨k, [.int .i64 ((k : Int) - 1)], by omega, by simp, m, by omega, hS.trans (hS2.wide (by omega) (by omega)), fun i hi => hH2 i hi, rfl, hr2, hK.trans hK2⟩
  rintro _ H1 ⟨d, v11, v21, hS, hH, hrow, hK, rfl⟩
  refine L_reg [0, 6, 7, 10] (fun K hK => ?_)
  simp [hL1, wrap_i64 (a := (l0 : Int)) (by omega)]
  apply hK; clear hK K
  refine L_block (L_loopV [10] (fun k vs H' => ∃ d : List Int, k ≤ L ∧ Shuf a (a + L) c d ∧ (∀ i, Hp κ a k d i) ∧ (∀ p q, p < q → k ≤ q → q < L → κ (g d (a + p)) ≤ κ (g d (a + q))) ∧ vs = [.int .i64 ((k : Int) - 1)] ∧ Rw tl r ver H' d ∧ KeepX r H H') L [.int .i64 l0] rfl ⟨d, Nat.le_refl _, hS, hH, fun p q h1 h2 h3 => by omega, by rw [hL1], hrow, hK⟩ ?_)
  clear hS hH hrow hK d H1
  rintro k _ H1 ⟨d, hk, hS, hH, hT, rfl, hrow, hK⟩
  have hdl : d.length = n := by rw [hS.len]; exact hn
  cases k with
  | zero =>
    refine L_reg [0, 6, 7, 10, 30] (fun K hK => ?_)
    simp
    apply hK; clear hK K
    refine L_false (by simp) (L_exit ?_)
    refine ⟨.inl rfl, _, rfl, h H1 d hS (fun p q h1 h2 h3 => ?_) hrow hK⟩
    have := hT (p - a) (q - a) (by omega) (by omega) (by omega)
    rw [show a + (p - a) = p by omega, show a + (q - a) = q by omega] at this
    exact this
  | succ k =>
    have hk1 : (k : Int) + 1 - 1 = k := by omega
    refine L_reg [0, 6, 7, 10, 30] (fun K hK => ?_)
    simp
    apply hK; clear hK K
    refine L_true (by simp) ?_
    refine L_block ?_
    obtain ⟨ib, hib⟩ : ∃ ix : Nat, (a : Int) + k = ix := ⟨a + k, by omega⟩
    have hibn : ib = a + k := by omega
    have hx := hrow.ld (i := a) (by omega)
    have hy := hrow.ld (i := ib) (by omega)
    have ga : a < n := by omega
    have gb : ib < n := by omega
    obtain ⟨H2, H3, e1, e2, e3, e4⟩ := hrow.swap (i := a) (j := ib) (by omega) (by omega)
    refine L_regT mixed [0, 6, 7, 10] (by kernel_rfl) (fun K hK => ?_)
    simp [hib, ga, gb, hx, hy, e1, e2, wrap_i64 (a := (ib : Int)) (by omega)]
    apply hK; clear hK K
    subst hibn
    have w0 := sw_i (c := d) (i := a) (j := a + k) (by omega) (by omega)
    have w1 := sw_j (c := d) (i := a) (j := a + k) (by omega) (by omega)
    have w2 := fun (k' : Nat) (k1 : k' ≠ a) (k2 : k' ≠ a + k) => sw_o (c := d) (i := a) (j := a + k) (by omega) (by omega) k1 k2
    have hmax := heap_max hH
    have hS3 : Shuf a (a + L) c (sw d a (a + k)) := hS.trans (.swap (by omega) (by omega) (by omega))
    have hl3 : (sw d a (a + k)).length = n := by rw [hS3.len]; exact hn
    have hK3 := hK.trans e4
    have hH3 : ∀ i, 0 < i → Hp κ a k (sw d a (a + k)) i := by
      intro i hi q' q1 q2
      rw [w2 _ (by omega) (by omega), w2 _ (by omega) (by omega)]
      exact hH i q' q1 (by omega)
    have hT3 : ∀ p q, p < q → k ≤ q → q < L → κ (g (sw d a (a + k)) (a + p)) ≤ κ (g (sw d a (a + k)) (a + q)) := by
      intro p q' h1 h2 h3
      by_cases e : q' = k
      · subst e
        rw [w1]
        by_cases e0 : p = 0
        · subst e0
          have := hmax q' (by omega)
          rw [Nat.add_zero] at *
          rw [w0]
          exact this
        · rw [w2 _ (by omega) (by omega)]
          exact hmax p (by omega)
      · rw [w2 (a + q') (by omega) (by omega)]
        by_cases e0 : p = 0
        · subst e0
          rw [Nat.add_zero, w0]
          exact hT k q' (by omega) (by omega) h3
        · by_cases e1 : p = k
          · subst e1
            rw [w1]
            exact hT 0 q' (by omega) (by omega) h3
          · rw [w2 (a + p) (by omega) (by omega)]
            exact hT p q' h1 (by omega) h3
    refine L_reg [0, 6, 7, 10] (fun K hK0 => ?_)
    simp [okFn_low]
    have := siftDown_ac (sb := sb) D κ r ver 0 k a (sw d a (a + k)) H3 (fun v H' => K [(0, SV sb r 0 n ver), (6, .int .i64 a), (7, .int .i64 0), (10, .int .i64 k)] H') (hC.keep hK3) e3 (hD.perm hS3.1) (by omega) (by omega) (by omega) hH3 (fun H4 m hS4 hH4 hr4 hK4 => ?_)
    · rw [hl3] at this; exact this
    apply hK0; clear hK0 K
    refine L_reg [0, 6, 7, 10] (fun K hK => ?_)
    simp [wrap_i64 (a := (k : Int) - 1) (by omega)]
    apply hK; clear hK K
    refine ⟨k, [.int .i64 ((k : Int) - 1)], by omega, by simp, m, by omega, hS3.trans (hS4.wide (by omega) (by omega)), fun i => hH4 i (by omega), fun p q' h1 h2 h3 => ?_, rfl, hr4, hK3.trans hK4⟩
    rw [hS4.2 (a + q') (by omega)]
    by_cases hp : p < k
    · have := hS4.all (by omega) (p := fun x => κ x ≤ κ (g (sw d a (a + k)) (a + q'))) (fun k' h4 h5 => by
        have := hT3 (k' - a) q' (by omega) h2 h3
        rw [show a + (k' - a) = k' by omega] at this
        exact this) (a + p) (by omega) (by omega)
      exact this
    · rw [hS4.2 (a + p) (by omega)]
      exact hT3 p q' h1 h2 h3
end Go.Proofs.Ytcidcihpkdoejaa.Ord
