/- Joined texts: OPart2, OHeap, OHeap2, OBrk, OPins, OPdq, OSort, Small, Home, HomeR, Jos, WGrown, Ints, SrcM, WSearched. -/
import Derived.Test.YtmlhekfkniibmaaJ692a
/- Sorting numbers (Part2). -/
namespace Go.Proofs.Ytmlhekfkniibmaa.Ord
open Go Go.Proofs.Ytmlhekfkniibmaa.AX Go.Proofs.Ytmlhekfkniibmaa
variable {sb : Bool}

set_option maxRecDepth 100000 in
theorem part_ac (D : Int → Prop) (κ : Int → Int) (r ver a b pv : Nat) (c : List Int) (H : AH) (Q : AV → AH → Prop) (hC : CmpO D κ r H) (hr : Rw r ver H c) (hD : All D c) (hl : c.length ≤ 1000000) (hpa : a ≤ pv) (hpb : pv < b) (hb : b ≤ c.length)
    (h : ∀ (H' : AH) (m : List Int) (p : Nat) (bb : Bool), a ≤ p → p < b → Shuf a b c m → (∀ k, a ≤ k → k < p → κ (g m k) ≤ κ (g m p)) → (∀ k, p < k → k < b → κ (g m p) ≤ κ (g m k)) → Rw r ver H' m → KeepX r H H' → Q (.tuple [.int .i64 p, .bool bb]) H') : AC Try.prog 88 [SV sb r 0 c.length ver, .int .i64 a, .int .i64 b, .int .i64 pv] H Q := by
  refine L_body 168 Try.func88 rfl rfl ?_
  refine L_reg [0, 1, 2, 3] (fun K hK => ?_)
  simp
  apply hK; clear hK K
  generalize hn : c.length = n at *
  obtain ⟨b0, rfl⟩ : ∃ b', b = b' + 1 := ⟨b - 1, by omega⟩
  generalize hb0 : b0 + 1 = b at *
  have hx0 := hr.ld (i := pv) (by omega)
  have hy0 := hr.ld (i := a) (by omega)
  obtain ⟨H2, H3, e1, e2, e3, e4⟩ := hr.swap (i := a) (j := pv) (by omega) (by omega)
  have ga : a < n := by omega
  have gp : pv < n := by omega
  refine L_regT mixed [0, 1, 2] (by kernel_rfl) (fun K hK => ?_)
  simp [ga, gp, hx0, hy0, e1, e2]
  apply hK; clear hK K
  have hbi : (b : Int) - 1 = b0 := by omega
  obtain ⟨i, hi⟩ : ∃ i : Nat, (a : Int) + 1 = i := ⟨a + 1, by omega⟩
  refine L_reg [0, 1, 10, 11] (fun K hK => ?_)
  simp [hi, wrap_i64 (a := (i : Int)) (by omega), hbi, wrap_i64 (a := (b0 : Int)) (by omega)]
  apply hK; clear hK K
  have hS0 : Shuf a b c (sw c a pv) := .swap (by omega) (by omega) (by omega)
  have hpiv : g (sw c a pv) a = g c pv := sw_i (by omega) (by omega)
  generalize hd0 : sw c a pv = d0 at e3 hS0 hpiv
  clear e1 e2 hx0 hy0
  generalize hLOW : (fun x => κ x < κ (g c pv)) = LOW
  have hlow : ∀ x, (LOW x → cmpS (κ x) (κ (g c pv)) < 0) ∧ (¬ LOW x → ¬ cmpS (κ x) (κ (g c pv)) < 0) := by
    intro x
    rw [← hLOW]
    constructor
    · intro h1; exact cmpS_neg.2 h1
    · intro h1 h2; exact h1 (cmpS_neg.1 h2)
  have hLd : ∀ x, LOW x ↔ κ x < κ (g c pv) := fun x => by rw [← hLOW]
  have hdD := hD.perm hS0.1
  have hCk := hC.keep e4
  have hdl : d0.length = n := by rw [hS0.len]; exact hn
  have ha0 := e3.ld (i := a) (by omega)
  have hLo : ∀ k, a < k → k < i → LOW (g d0 k) := fun k k1 k2 => by omega
  have hHi : ∀ k, b0 < k → k < b → ¬ LOW (g d0 k) := fun k k1 k2 => by omega
  rw [hpiv] at ha0
  have hdDa : D (g c pv) := by rw [← hpiv]; exact hdD a (by omega)
  have hrow := e3
  clear e3
  clear hd0
  generalize H3 = H1 at *
  generalize d0 = d at *
  generalize hj0 : b0 = j at *
  refine L_blockR (fun e' H' => ∃ (x2 : Nat) (v : AV), i ≤ x2 ∧ x2 ≤ j + 1 ∧ (∀ k, a < k → k < x2 → LOW (g d k)) ∧ (x2 ≤ j → ¬ LOW (g d x2)) ∧ e' = [(0, SV sb r 0 n ver), (1, .int .i64 a), (10, .int .i64 (x2 : Nat)), (11, .int .i64 (j : Nat)), (43, v)] ∧ H1 = H') (L_loopV [10] (fun n' vs H' => ∃ x2 : Nat, n' = j + 1 - x2 ∧ i ≤ x2 ∧ x2 ≤ j + 1 ∧ (∀ k, a < k → k < x2 → LOW (g d k)) ∧ vs = [.int .i64 x2] ∧ H1 = H') _ [.int .i64 i] rfl ⟨i, rfl, by omega, by omega, hLo, rfl, rfl⟩ ?_) ?_
  · rintro n' _ _ ⟨x2, rfl, h1, h2, hR, rfl, rfl⟩
    by_cases hij : x2 ≤ j
    · have hx := hrow.ld (i := x2) (by omega)
      have g1 : x2 < n := by omega
      refine L_regT mixed [0, 1, 10, 11, 43] (by kernel_rfl) (fun K hK => ?_)
      simp [okFn_low, hij, g1, ga, hx, ha0]
      refine exC_mk (fun Q hQ => hCk.2 H1 (.refl _ _) _ _ (hdD x2 (by omega)) hdDa Q hQ) ?_
      simp [pickV]
      apply hK; clear hK K
      have hc := hlow (g d x2)
      by_cases hL : LOW (g d x2)
      · refine L_true (by first | simpa using hc.1 hL | simpa using hc.2 hL) ?_
        refine L_block ?_
        refine L_reg [0, 1, 10, 11] (fun K hK => ?_)
        simp [wrap_i64 (a := (x2 : Int) + 1) (by omega)]
        apply hK; clear hK K
        refine ⟨j + 1 - (x2 + 1), [.int .i64 (x2 + 1 : Nat)], by omega, by simp, x2 + 1, rfl, by omega, by omega, fun k k1 k2 => ?_, rfl, rfl⟩
        by_cases k3 : k = x2
        · rw [k3]; exact hL
        · exact hR k k1 (by omega)
      · refine L_false (by first | simpa using hc.1 hL | simpa using hc.2 hL) (L_exit ?_)
        exact ⟨x2, _, h1, h2, hR, fun _ => hL, rfl, rfl⟩
    · refine L_regT mixed [0, 1, 10, 11, 43] (by kernel_rfl) (fun K hK => ?_)
      simp [pickV, hij]
      apply hK; clear hK K
      refine L_false (by simp) (L_exit ?_)
      exact ⟨x2, _, h1, h2, hR, fun h => absurd h hij, rfl, rfl⟩
  rintro _ _ ⟨i1, vu, h1u, h2u, hRu, hsu, rfl, rfl⟩
  refine L_blockR (fun e' H' => ∃ (x2 : Nat) (v : AV), x2 ≤ j ∧ i1 ≤ x2 + 1 ∧ (∀ k, x2 < k → k < b → ¬ LOW (g d k)) ∧ (i1 ≤ x2 → LOW (g d x2)) ∧ e' = [(0, SV sb r 0 n ver), (1, .int .i64 a), (10, .int .i64 (i1 : Nat)), (11, .int .i64 (x2 : Nat)), (43, vu), (60, v)] ∧ H1 = H') (L_loopV [11] (fun n' vs H' => ∃ x2 : Nat, n' = x2 + 1 - i1 ∧ x2 ≤ j ∧ i1 ≤ x2 + 1 ∧ (∀ k, x2 < k → k < b → ¬ LOW (g d k)) ∧ vs = [.int .i64 x2] ∧ H1 = H') _ [.int .i64 j] rfl ⟨j, rfl, by omega, by omega, hHi, rfl, rfl⟩ ?_) ?_
  · rintro n' _ _ ⟨x2, rfl, h1, h2, hR, rfl, rfl⟩
    by_cases hij : i1 ≤ x2
    · have hx := hrow.ld (i := x2) (by omega)
      have g1 : x2 < n := by omega
      refine L_regT mixed [0, 1, 10, 11, 43, 60] (by kernel_rfl) (fun K hK => ?_)
      simp [okFn_low, hij, g1, ga, hx, ha0]
      refine exC_mk (fun Q hQ => hCk.2 H1 (.refl _ _) _ _ (hdD x2 (by omega)) hdDa Q hQ) ?_
      simp [pickV]
      apply hK; clear hK K
      have hc := hlow (g d x2)
      by_cases hL : LOW (g d x2)
      · refine L_false (by first | simpa using hc.1 hL | simpa using hc.2 hL) (L_exit ?_)
        exact ⟨x2, _, h1, h2, hR, fun _ => hL, rfl, rfl⟩
      · refine L_true (by first | simpa using hc.1 hL | simpa using hc.2 hL) ?_
        refine L_block ?_
        obtain ⟨x3, rfl⟩ : ∃ x3, x2 = x3 + 1 := ⟨x2 - 1, by omega⟩
        refine L_reg [0, 1, 10, 11, 43] (fun K hK => ?_)
        simp [wrap_i64 (a := (x3 : Int)) (by omega)]
        apply hK; clear hK K
        refine ⟨x3 + 1 - i1, [.int .i64 (x3 : Nat)], by omega, by simp, x3, rfl, by omega, by omega, fun k k1 k2 => ?_, rfl, rfl⟩
        by_cases k3 : k = x3 + 1
        · rw [k3]; exact hL
        · exact hR k (by omega) k2
    · refine L_regT mixed [0, 1, 10, 11, 43, 60] (by kernel_rfl) (fun K hK => ?_)
      simp [pickV, hij]
      apply hK; clear hK K
      refine L_false (by simp) (L_exit ?_)
      exact ⟨x2, _, h1, h2, hR, fun h => absurd h hij, rfl, rfl⟩
  rintro _ _ ⟨j1, vd, h1d, h2d, hRd, hsd, rfl, rfl⟩
  refine L_reg [0, 1, 10, 11, 65] (fun K hK => ?_)
  simp
  apply hK; clear hK K
  refine L_dec (j1 < i1) (by simp) (fun hlt => ?_) (fun hge => ?_)
  · have e : i1 = j1 + 1 := by omega
    obtain ⟨f1, f2, f3⟩ := part_fin (D := κ) hLd (by omega) (show a ≤ j1 by omega) (by omega) hS0 hpiv (by rw [← e]; exact hRu) hRd
    have hx := hrow.ld (i := j1) (by omega)
    obtain ⟨H4, H5, e1, e2, e3, e5⟩ := hrow.swap (i := j1) (j := a) (by omega) (by omega)
    rw [hpiv] at e1
    have g1 : j1 < n := by omega
    refine L_regT mixed [11] (by kernel_rfl) (fun K hK => ?_)
    simp [g1, ga, hx, ha0, e1, e2]
    apply hK; clear hK K
    refine L_reg [8, 9] (fun K hK => ?_)
    simp
    apply hK; clear hK K
    exact L_ret ⟨.inr rfl, _, rfl, h H5 _ j1 true (by omega) (by omega) f1 f2 f3 e3 (e4.trans e5)⟩
  · have hl1 := hsu (by omega)
    have hl2 := hsd (by omega)
    have hne : i1 ≠ j1 := by rintro rfl; exact hl1 hl2
    obtain ⟨j2, rfl⟩ : ∃ j2, j1 = j2 + 1 := ⟨j1 - 1, by omega⟩
    have hx := hrow.ld (i := i1) (by omega)
    have hy := hrow.ld (i := j2 + 1) (by omega)
    obtain ⟨H4, H5, e1, e2, e3, e5⟩ := hrow.swap (i := i1) (j := j2 + 1) (by omega) (by omega)
    have g1 : i1 < n := by omega
    have g2 : (j2 : Int) + 1 < n := by omega
    have g3 : (0 : Int) ≤ (j2 : Int) + 1 := by omega
    have g4 : ((j2 : Int) + 1).toNat = j2 + 1 := by omega
    refine L_regT mixed [0, 1, 10, 11] (by kernel_rfl) (fun K hK => ?_)
    simp [g1, g2, g3, g4, hx, hy, e1, e2]
    apply hK; clear hK K
    refine L_reg [0, 1, 10, 11] (fun K hK => ?_)
    simp [wrap_i64 (a := (i1 : Int) + 1) (by omega)]
    apply hK; clear hK K
    refine L_reg [0, 1, 10, 11] (fun K hK => ?_)
    simp [wrap_i64 (a := (j2 : Int)) (by omega)]
    apply hK; clear hK K
    have w0 := sw_i (c := d) (i := i1) (j := j2 + 1) (by omega) (by omega)
    have w1 := sw_j (c := d) (i := i1) (j := j2 + 1) (by omega) (by omega)
    have w2 := fun (k : Nat) (k1 : k ≠ i1) (k2 : k ≠ j2 + 1) => sw_o (c := d) (i := i1) (j := j2 + 1) (by omega) (by omega) k1 k2
    refine L_block (L_loopV [10, 11] (fun n' vs H' => ∃ (i j : Nat) (d : List Int), n' = j + 1 - i ∧ a + 1 ≤ i ∧ i ≤ j + 1 ∧ j < b ∧ Shuf a b c d ∧ g d a = g c pv ∧ (∀ k, a < k → k < i → LOW (g d k)) ∧ (∀ k, j < k → k < b → ¬ LOW (g d k)) ∧ vs = [.int .i64 i, .int .i64 j] ∧ Rw r ver H' d ∧ KeepX r H H') _ [.int .i64 (i1 + 1 : Nat), .int .i64 j2] rfl ⟨i1 + 1, j2, sw d i1 (j2 + 1), rfl, by omega, by omega, by omega, hS0.trans (.swap (by omega) (by omega) (by omega)), by rw [w2 a (by omega) (by omega)]; exact hpiv, fun k k1 k2 => ?_, fun k k1 k2 => ?_, rfl, e3, e4.trans e5⟩ ?_)
    · by_cases k3 : k = i1
      · rw [k3, w0]; exact hl2
      · rw [w2 k k3 (by omega)]; exact hRu k k1 (by omega)
    · by_cases k3 : k = j2 + 1
      · rw [k3, w1]; exact hl1
      · rw [w2 k (by omega) k3]; exact hRd k (by omega) k2
    clear w0 w1 w2 e1 e2 e3 e5 hx hy hl1 hl2 hsu hsd hRu hRd hne hrow e4 hS0 hpiv hdl hdD hCk ha0 hdDa hLo hHi g1 g2 g3 g4 hr
    clear H4 H5
    clear d
    clear H1
    rintro _ _ H1 ⟨i, j, d, rfl, hi, hij0, hjb, hS, hpiv, hLo, hHi, rfl, hrow, hK⟩
    have hdl : d.length = n := by rw [hS.len]; exact hn
    have hdD := hD.perm hS.1
    have hCk := hC.keep hK
    have ha0 := hrow.ld (i := a) (by omega)
    rw [hpiv] at ha0
    have hdDa : D (g c pv) := by rw [← hpiv]; exact hdD a (by omega)
    refine L_block ?_
    refine L_blockR (fun e' H' => ∃ (x2 : Nat) (v : AV), i ≤ x2 ∧ x2 ≤ j + 1 ∧ (∀ k, a < k → k < x2 → LOW (g d k)) ∧ (x2 ≤ j → ¬ LOW (g d x2)) ∧ e' = [(0, SV sb r 0 n ver), (1, .int .i64 a), (10, .int .i64 (x2 : Nat)), (11, .int .i64 (j : Nat)), (112, v)] ∧ H1 = H') (L_loopV [10] (fun n' vs H' => ∃ x2 : Nat, n' = j + 1 - x2 ∧ i ≤ x2 ∧ x2 ≤ j + 1 ∧ (∀ k, a < k → k < x2 → LOW (g d k)) ∧ vs = [.int .i64 x2] ∧ H1 = H') _ [.int .i64 i] rfl ⟨i, rfl, by omega, by omega, hLo, rfl, rfl⟩ ?_) ?_
    · rintro n' _ _ ⟨x2, rfl, h1, h2, hR, rfl, rfl⟩
      by_cases hij : x2 ≤ j
      · have hx := hrow.ld (i := x2) (by omega)
        have g1 : x2 < n := by omega
        refine L_regT mixed [0, 1, 10, 11, 112] (by kernel_rfl) (fun K hK => ?_)
        simp [okFn_low, hij, g1, ga, hx, ha0]
        refine exC_mk (fun Q hQ => hCk.2 H1 (.refl _ _) _ _ (hdD x2 (by omega)) hdDa Q hQ) ?_
        simp [pickV]
        apply hK; clear hK K
        have hc := hlow (g d x2)
        by_cases hL : LOW (g d x2)
        · refine L_true (by first | simpa using hc.1 hL | simpa using hc.2 hL) ?_
          refine L_block ?_
          refine L_reg [0, 1, 10, 11] (fun K hK => ?_)
          simp [wrap_i64 (a := (x2 : Int) + 1) (by omega)]
          apply hK; clear hK K
          refine ⟨j + 1 - (x2 + 1), [.int .i64 (x2 + 1 : Nat)], by omega, by simp, x2 + 1, rfl, by omega, by omega, fun k k1 k2 => ?_, rfl, rfl⟩
          by_cases k3 : k = x2
          · rw [k3]; exact hL
          · exact hR k k1 (by omega)
        · refine L_false (by first | simpa using hc.1 hL | simpa using hc.2 hL) (L_exit ?_)
          exact ⟨x2, _, h1, h2, hR, fun _ => hL, rfl, rfl⟩
      · refine L_regT mixed [0, 1, 10, 11, 112] (by kernel_rfl) (fun K hK => ?_)
        simp [pickV, hij]
        apply hK; clear hK K
        refine L_false (by simp) (L_exit ?_)
        exact ⟨x2, _, h1, h2, hR, fun h => absurd h hij, rfl, rfl⟩
    rintro _ _ ⟨i3, vu, h1u, h2u, hRu, hsu, rfl, rfl⟩
    refine L_blockR (fun e' H' => ∃ (x2 : Nat) (v : AV), x2 ≤ j ∧ i3 ≤ x2 + 1 ∧ (∀ k, x2 < k → k < b → ¬ LOW (g d k)) ∧ (i3 ≤ x2 → LOW (g d x2)) ∧ e' = [(0, SV sb r 0 n ver), (1, .int .i64 a), (10, .int .i64 (i3 : Nat)), (11, .int .i64 (x2 : Nat)), (112, vu), (129, v)] ∧ H1 = H') (L_loopV [11] (fun n' vs H' => ∃ x2 : Nat, n' = x2 + 1 - i3 ∧ x2 ≤ j ∧ i3 ≤ x2 + 1 ∧ (∀ k, x2 < k → k < b → ¬ LOW (g d k)) ∧ vs = [.int .i64 x2] ∧ H1 = H') _ [.int .i64 j] rfl ⟨j, rfl, by omega, by omega, hHi, rfl, rfl⟩ ?_) ?_
    · rintro n' _ _ ⟨x2, rfl, h1, h2, hR, rfl, rfl⟩
      by_cases hij : i3 ≤ x2
      · have hx := hrow.ld (i := x2) (by omega)
        have g1 : x2 < n := by omega
        refine L_regT mixed [0, 1, 10, 11, 112, 129] (by kernel_rfl) (fun K hK => ?_)
        simp [okFn_low, hij, g1, ga, hx, ha0]
        refine exC_mk (fun Q hQ => hCk.2 H1 (.refl _ _) _ _ (hdD x2 (by omega)) hdDa Q hQ) ?_
        simp [pickV]
        apply hK; clear hK K
        have hc := hlow (g d x2)
        by_cases hL : LOW (g d x2)
        · refine L_false (by first | simpa using hc.1 hL | simpa using hc.2 hL) (L_exit ?_)
          exact ⟨x2, _, h1, h2, hR, fun _ => hL, rfl, rfl⟩
        · refine L_true (by first | simpa using hc.1 hL | simpa using hc.2 hL) ?_
          refine L_block ?_
          obtain ⟨x3, rfl⟩ : ∃ x3, x2 = x3 + 1 := ⟨x2 - 1, by omega⟩
          refine L_reg [0, 1, 10, 11, 112] (fun K hK => ?_)
          simp [wrap_i64 (a := (x3 : Int)) (by omega)]
          apply hK; clear hK K
          refine ⟨x3 + 1 - i3, [.int .i64 (x3 : Nat)], by omega, by simp, x3, rfl, by omega, by omega, fun k k1 k2 => ?_, rfl, rfl⟩
          by_cases k3 : k = x3 + 1
          · rw [k3]; exact hL
          · exact hR k (by omega) k2
      · refine L_regT mixed [0, 1, 10, 11, 112, 129] (by kernel_rfl) (fun K hK => ?_)
        simp [pickV, hij]
        apply hK; clear hK K
        refine L_false (by simp) (L_exit ?_)
        exact ⟨x2, _, h1, h2, hR, fun h => absurd h hij, rfl, rfl⟩
    rintro _ _ ⟨j3, vd, h1d, h2d, hRd, hsd, rfl, rfl⟩
    refine L_reg [0, 1, 10, 11, 134] (fun K hK => ?_)
    simp
    apply hK; clear hK K
    refine L_dec (j3 < i3) (by simp) (fun hlt => L_exit ?_) (fun hge => ?_)
    · have e : i3 = j3 + 1 := by omega
      obtain ⟨f1, f2, f3⟩ := part_fin (D := κ) hLd (by omega) (show a ≤ j3 by omega) (by omega) hS hpiv (by rw [← e]; exact hRu) hRd
      have hx := hrow.ld (i := j3) (by omega)
      obtain ⟨H4, H5, e1, e2, e3, e5⟩ := hrow.swap (i := j3) (j := a) (by omega) (by omega)
      rw [hpiv] at e1
      have g1 : j3 < n := by omega
      refine L_regT mixed [11] (by kernel_rfl) (fun K hK => ?_)
      simp [g1, ga, hx, ha0, e1, e2]
      apply hK; clear hK K
      refine L_reg [8, 9] (fun K hK => ?_)
      simp
      apply hK; clear hK K
      exact L_ret ⟨.inr rfl, _, rfl, h H5 _ j3 false (by omega) (by omega) f1 f2 f3 e3 (hK.trans e5)⟩
    · have hl1 := hsu (by omega)
      have hl2 := hsd (by omega)
      have hne : i3 ≠ j3 := by rintro rfl; exact hl1 hl2
      obtain ⟨j2, rfl⟩ : ∃ j2, j3 = j2 + 1 := ⟨j3 - 1, by omega⟩
      have hx := hrow.ld (i := i3) (by omega)
      have hy := hrow.ld (i := j2 + 1) (by omega)
      obtain ⟨H2, H3, e1, e2, e3, e4⟩ := hrow.swap (i := i3) (j := j2 + 1) (by omega) (by omega)
      have g1 : i3 < n := by omega
      have g2 : (j2 : Int) + 1 < n := by omega
      have g3 : (0 : Int) ≤ (j2 : Int) + 1 := by omega
      have g4 : ((j2 : Int) + 1).toNat = j2 + 1 := by omega
      refine L_regT mixed [0, 1, 10, 11] (by kernel_rfl) (fun K hK => ?_)
      simp [g1, g2, g3, g4, hx, hy, e1, e2]
      apply hK; clear hK K
      refine L_reg [0, 1, 10, 11] (fun K hK => ?_)
      simp [wrap_i64 (a := (i3 : Int) + 1) (by omega)]
      apply hK; clear hK K
      refine L_reg [0, 1, 10, 11] (fun K hK => ?_)
      simp [wrap_i64 (a := (j2 : Int)) (by omega)]
      apply hK; clear hK K
      have w0 := sw_i (c := d) (i := i3) (j := j2 + 1) (by omega) (by omega)
      have w1 := sw_j (c := d) (i := i3) (j := j2 + 1) (by omega) (by omega)
      have w2 := fun (k : Nat) (k1 : k ≠ i3) (k2 : k ≠ j2 + 1) => sw_o (c := d) (i := i3) (j := j2 + 1) (by omega) (by omega) k1 k2
      refine ⟨j2 + 1 - (i3 + 1), [.int .i64 (i3 + 1 : Nat), .int .i64 j2], by omega, by simp, i3 + 1, j2, _, rfl, by omega, by omega, by omega, hS.trans (.swap (by omega) (by omega) (by omega)), by rw [w2 a (by omega) (by omega)]; exact hpiv, fun k k1 k2 => ?_, fun k k1 k2 => ?_, rfl, e3, hK.trans e4⟩
      · by_cases k3 : k = i3
        · rw [k3, w0]; exact hl2
        · rw [w2 k k3 (by omega)]; exact hRu k k1 (by omega)
      · by_cases k3 : k = j2 + 1
        · rw [k3, w1]; exact hl1
        · rw [w2 k (by omega) k3]; exact hRd k (by omega) k2
end Go.Proofs.Ytmlhekfkniibmaa.Ord

/- Sorting numbers (Heap). -/
namespace Go.Proofs.Ytmlhekfkniibmaa.Ord
open Go Go.Proofs.Ytmlhekfkniibmaa.AX Go.Proofs.Ytmlhekfkniibmaa
variable {sb : Bool}

set_option maxRecDepth 100000 in
theorem siftDown_ac (D : Int → Prop) (κ : Int → Int) (r ver lo hi fi : Nat) (c : List Int) (H : AH) (Q : AV → AH → Prop) (hC : CmpO D κ r H) (hr : Rw r ver H c) (hD : All D c) (hl : c.length ≤ 1000000) (hb : fi + hi ≤ c.length) (hlo : lo ≤ hi) (hH : ∀ i, lo < i → Hp κ fi hi c i)
    (h : ∀ (H' : AH) (m : List Int), Shuf (fi + lo) (fi + hi) c m → (∀ i, lo ≤ i → Hp κ fi hi m i) → Rw r ver H' m → KeepX r H H' → Q (.tuple []) H') : AC Try.prog 89 [SV sb r 0 c.length ver, .int .i64 lo, .int .i64 hi, .int .i64 fi] H Q := by
  refine L_body 76 Try.func89 rfl rfl ?_
  refine L_reg [0, 2, 3, 8] (fun K hK => ?_)
  simp
  apply hK; clear hK K
  generalize hn : c.length = n at *
  refine L_block (L_loopV [8] (fun k vs H' => ∃ (ro : Nat) (d : List Int), k = hi - ro ∧ lo ≤ ro ∧ ro ≤ hi ∧ Shuf (fi + lo) (fi + hi) c d ∧ (∀ i, lo ≤ i → i ≠ ro → Hp κ fi hi d i) ∧ (∀ i, lo ≤ i → ro = 2 * i + 1 ∨ ro = 2 * i + 2 → ∀ q, q = 2 * ro + 1 ∨ q = 2 * ro + 2 → q < hi → κ (g d (fi + q)) ≤ κ (g d (fi + i))) ∧ vs = [.int .i64 ro] ∧ Rw r ver H' d ∧ KeepX r H H') _ [.int .i64 lo] rfl ⟨lo, c, rfl, by omega, by omega, .refl _ _ _, fun i h1 h2 => hH i (by omega), fun i h1 h2 => by omega, rfl, hr, .refl r H⟩ ?_)
  rintro _ _ H1 ⟨ro, d, rfl, hro, hroh, hS, h1, h2, rfl, hrow, hK⟩
  have hdl : d.length = n := by rw [hS.len]; exact hn
  have hdD := hD.perm hS.1
  have hCk := hC.keep hK
  refine L_block ?_
  obtain ⟨ch, hch⟩ : ∃ ch : Nat, 2 * (ro : Int) + 1 = ch := ⟨2 * ro + 1, by omega⟩
  refine L_reg [0, 2, 3, 8, 9] (fun K hK => ?_)
  simp [wrap_i64 (a := 2 * (ro : Int)) (by omega), hch, wrap_i64 (a := (ch : Int)) (by omega)]
  apply hK; clear hK K
  refine L_reg [0, 2, 3, 8, 9, 16] (fun K hK => ?_)
  simp
  apply hK; clear hK K
  refine L_dec (hi ≤ ch) (by simp) (fun hge => L_exit ?_) (fun hlt => ?_)
  · refine ⟨.inl rfl, _, rfl, h H1 d hS (fun i hi1 => ?_) hrow hK⟩
    by_cases e : i = ro
    · subst e; intro c hc hch; omega
    · exact h1 i hi1 e
  obtain ⟨ix, hix⟩ : ∃ ix : Nat, (fi : Int) + ch = ix := ⟨fi + ch, by omega⟩
  have hixn : ix = fi + ch := by omega
  refine L_regT mixed [0, 2, 3, 8, 9, 36] (by kernel_rfl) (fun K hK0 => ?_)
  have hK2 : ∀ t : Bool, (t = true → ch + 1 < hi ∧ κ (g d (fi + ch)) < κ (g d (fi + (ch + 1)))) → (t = false → ch + 1 < hi → κ (g d (fi + (ch + 1))) ≤ κ (g d (fi + ch))) → K [(0, SV sb r 0 n ver), (2, .int .i64 hi), (3, .int .i64 fi), (8, .int .i64 ro), (9, .int .i64 ch), (36, .bool t)] H1 := by
    intro t ht1 ht2
    refine hK0 _ _ ?_
    clear hK0 K
    refine L_condK [0, 2, 3, 8, 9] (fun e' H' => ∃ c2 : Nat, (c2 = ch ∨ c2 = ch + 1) ∧ c2 < hi ∧ (∀ q, q = ch ∨ q = ch + 1 → q < hi → κ (g d (fi + q)) ≤ κ (g d (fi + c2))) ∧ e' = [(0, SV sb r 0 n ver), (2, .int .i64 hi), (3, .int .i64 fi), (8, .int .i64 ro), (9, .int .i64 (c2 : Nat))] ∧ H1 = H') (t := t) rfl (fun ht => ?_) (fun ht => ?_) ?_
    · obtain ⟨g1, g2⟩ := ht1 ht
      refine L_reg [0, 2, 3, 8, 9] (fun K hK => ?_)
      simp [wrap_i64 (a := (ch : Int) + 1) (by omega)]
      apply hK; clear hK K
      refine ⟨ch + 1, .inr rfl, g1, fun q hq1 hq2 => ?_, by simp, rfl⟩
      rcases hq1 with rfl | rfl <;> omega
    · refine ⟨ch, .inl rfl, by omega, fun q hq1 hq2 => ?_, by simp, rfl⟩
      rcases hq1 with rfl | rfl
      · omega
      · exact ht2 ht hq2
    · rintro _ _ ⟨c2, hc2, hc2h, hbig, rfl, rfl⟩
      clear ht1 ht2
      have hc2ro : c2 = 2 * ro + 1 ∨ c2 = 2 * ro + 2 := by omega
      obtain ⟨ia, hia⟩ : ∃ ix : Nat, (fi : Int) + ro = ix := ⟨fi + ro, by omega⟩
      obtain ⟨ib, hib⟩ : ∃ ix : Nat, (fi : Int) + c2 = ix := ⟨fi + c2, by omega⟩
      have hian : ia = fi + ro := by omega
      have hibn : ib = fi + c2 := by omega
      have hx := hrow.ld (i := ia) (by omega)
      have hy := hrow.ld (i := ib) (by omega)
      have ga : ia < n := by omega
      have gb : ib < n := by omega
      refine L_regT mixed [0, 2, 3, 8, 9, 52] (by kernel_rfl) (fun K hK => ?_)
      simp [okFn_low, hia, hib, ga, gb, hx, hy, wrap_i64 (a := (ia : Int)) (by omega), wrap_i64 (a := (ib : Int)) (by omega)]
      refine exC_mk (fun Q hQ => hCk.2 H1 (.refl _ _) _ _ (hdD ia (by omega)) (hdD ib (by omega)) Q hQ) ?_
      simp
      apply hK; clear hK K
      by_cases hless : κ (g d ia) < κ (g d ib)
      · refine L_false (by simpa using cmpS_neg.2 hless) ?_
        obtain ⟨H2, H3, e1, e2, e3, e4⟩ := hrow.swap (i := ia) (j := ib) (by omega) (by omega)
        refine L_regT mixed [0, 2, 3, 9] (by kernel_rfl) (fun K hK => ?_)
        simp [hia, hib, ga, gb, hx, hy, e1, e2, wrap_i64 (a := (ia : Int)) (by omega), wrap_i64 (a := (ib : Int)) (by omega)]
        apply hK; clear hK K
        refine L_reg [0, 2, 3, 8] (fun K hK => ?_)
        simp
        apply hK; clear hK K
        have w0 := sw_i (c := d) (i := ia) (j := ib) (by omega) (by omega)
        have w1 := sw_j (c := d) (i := ia) (j := ib) (by omega) (by omega)
        have w2 := fun (k : Nat) (k1 : k ≠ ia) (k2 : k ≠ ib) => sw_o (c := d) (i := ia) (j := ib) (by omega) (by omega) k1 k2
        subst hian
        subst hibn
        have v0 : g (sw d (fi + ro) (fi + c2)) (fi + ro) = g d (fi + c2) := w0
        have v1 : g (sw d (fi + ro) (fi + c2)) (fi + c2) = g d (fi + ro) := w1
        have v2 : ∀ k, k ≠ ro → k ≠ c2 → g (sw d (fi + ro) (fi + c2)) (fi + k) = g d (fi + k) := fun k k1 k2 => w2 _ (by omega) (by omega)
        refine ⟨hi - c2, [.int .i64 (c2 : Nat)], by omega, by simp, c2, _, rfl, by omega, by omega, hS.trans (.swap (by omega) (by omega) (by omega)), fun i i1 i2 q q1 q2 => ?_, fun i i1 i2 q q1 q2 => ?_, rfl, e3, hK.trans e4⟩
        · by_cases e : i = ro
          · subst e
            rw [v0]
            by_cases q3 : q = c2
            · rw [q3, v1]; omega
            · rw [v2 q (by omega) q3]; exact hbig q (by omega) q2
          · have h3 := h1 i i1 e q q1 q2
            rw [v2 i e i2]
            by_cases q3 : q = ro
            · rw [q3, v0]; exact h2 i i1 (by omega) c2 hc2ro hc2h
            · rw [v2 q q3 (by omega)]; exact h3
        · have : i = ro := by omega
          subst this
          rw [v0, v2 q (by omega) (by omega)]
          exact h1 c2 (by omega) (by omega) q q1 q2
      · have hneg : ¬ cmpS (κ (g d ia)) (κ (g d ib)) < 0 := fun h => hless (cmpS_neg.1 h)
        refine L_true (by simpa using hneg) ?_
        refine L_ret ⟨.inr rfl, _, rfl, h H1 d hS (fun i hi1 => ?_) hrow hK⟩
        by_cases e : i = ro
        · subst e
          intro q q1 q2
          have := hbig q (by omega) q2
          rw [hian, hibn] at hless
          omega
        · exact h1 i hi1 e
  by_cases hc1 : ch + 1 < hi
  · have hx := hrow.ld (i := ix) (by omega)
    have hy := hrow.ld (i := ix + 1) (by omega)
    have g1 : ix < n := by omega
    have g2 : (ix : Int) + 1 < n := by omega
    have g3 : (0 : Int) ≤ (ix : Int) + 1 := by omega
    have g4 : ((ix : Int) + 1).toNat = ix + 1 := by omega
    have g5 : (ch : Int) + 1 < hi := by omega
    simp [okFn_low, hix, g1, g2, g3, g4, g5, hx, hy, wrap_i64 (a := (ch : Int) + 1) (by omega), wrap_i64 (a := (ix : Int)) (by omega), wrap_i64 (a := (ix : Int) + 1) (by omega)]
    refine exC_mk (fun Q hQ => hCk.2 H1 (.refl _ _) _ _ (hdD ix (by omega)) (hdD (ix + 1) (by omega)) Q hQ) ?_
    simp [pickV]
    refine hK2 _ (fun ht => ⟨hc1, ?_⟩) (fun ht _ => ?_)
    · have := cmpS_neg.1 (of_decide_eq_true ht)
      rw [hixn] at this; exact this
    · have : ¬ κ (g d ix) < κ (g d (ix + 1)) := fun h => (of_decide_eq_false ht) (cmpS_neg.2 h)
      rw [hixn] at this
      exact Int.not_lt.1 this
  · have g5 : ¬ (ch : Int) + 1 < hi := by omega
    simp [pickV, g5, wrap_i64 (a := (ch : Int) + 1) (by omega)]
    exact hK2 false (fun h => by cases h) (fun _ h => absurd h hc1)
end Go.Proofs.Ytmlhekfkniibmaa.Ord

/- Sorting numbers (Heap2). -/
namespace Go.Proofs.Ytmlhekfkniibmaa.Ord
open Go Go.Proofs.Ytmlhekfkniibmaa.AX Go.Proofs.Ytmlhekfkniibmaa
variable {sb : Bool}

set_option maxRecDepth 100000 in
theorem heapSort_ac (D : Int → Prop) (κ : Int → Int) (r ver a l : Nat) (c : List Int) (H : AH) (Q : AV → AH → Prop) (hC : CmpO D κ r H) (hr : Rw r ver H c) (hD : All D c) (hl : c.length ≤ 1000000) (hb : a + l ≤ c.length) (hl1 : 1 ≤ l)
    (h : ∀ (H' : AH) (m : List Int), Shuf a (a + l) c m → Srt κ a (a + l) m → Rw r ver H' m → KeepX r H H' → Q (.tuple []) H') : AC Try.prog 81 [SV sb r 0 c.length ver, .int .i64 a, .int .i64 (a + l : Nat)] H Q := by
  refine L_body 56 Try.func81 rfl rfl ?_
  refine L_reg [0, 1, 2, 6] (fun K hK => ?_)
  simp
  apply hK; clear hK K
  refine L_reg [0, 1, 2, 6, 7] (fun K hK => ?_)
  simp
  apply hK; clear hK K
  refine L_reg [0, 6, 7, 8] (fun K hK => ?_)
  simp [show ((a : Int) + l - a) = l by omega, wrap_i64 (a := (l : Int)) (by omega)]
  apply hK; clear hK K
  obtain ⟨l0, rfl⟩ : ∃ l0, l = l0 + 1 := ⟨l - 1, by omega⟩
  generalize hL : l0 + 1 = L at *
  have hdiv : ((l0 : Int)).tdiv 2 = ((l0 / 2 : Nat) : Int) := by rw [Int.tdiv_eq_ediv_of_nonneg (by omega)]; rfl
  obtain ⟨q, hq⟩ : ∃ q, q = l0 / 2 := ⟨_, rfl⟩
  rw [← hq] at hdiv
  have hL1 : (L : Int) - 1 = l0 := by omega
  refine L_reg [0, 6, 7, 8, 9] (fun K hK => ?_)
  simp [hL1, hdiv, wrap_i64 (a := (l0 : Int)) (by omega), wrap_i64 (a := (q : Int)) (by omega)]
  apply hK; clear hK K
  generalize hn : c.length = n at *
  refine L_blockR (fun e' H' => ∃ (d : List Int) (v11 v21 : AV), Shuf a (a + L) c d ∧ (∀ i, Hp κ a L d i) ∧ Rw r ver H' d ∧ KeepX r H H' ∧ e' = [(0, SV sb r 0 n ver), (6, .int .i64 a), (7, .int .i64 0), (8, .int .i64 L), (9, v11), (19, v21)]) (L_loopV [9] (fun k vs H' => ∃ d : List Int, k ≤ q + 1 ∧ Shuf a (a + L) c d ∧ (∀ i, k ≤ i → Hp κ a L d i) ∧ vs = [.int .i64 ((k : Int) - 1)] ∧ Rw r ver H' d ∧ KeepX r H H') (q + 1) [.int .i64 q] rfl ⟨c, by omega, .refl _ _ _, fun i hi q1 q2 q3 => by omega, by simp, hr, .refl r H⟩ ?_) ?_
  · rintro k _ H1 ⟨d, hk, hS, hH, rfl, hrow, hK⟩
    have hdl : d.length = n := by rw [hS.len]; exact hn
    cases k with
    | zero =>
      refine L_reg [0, 6, 7, 8, 9, 19] (fun K hK => ?_)
      simp
      apply hK; clear hK K
      refine L_false (by simp) (L_exit ?_)
      exact ⟨d, _, _, hS, fun i => hH i (by omega), hrow, hK, rfl⟩
    | succ k =>
      have hk1 : (k : Int) + 1 - 1 = k := by omega
      refine L_reg [0, 6, 7, 8, 9, 19] (fun K hK => ?_)
      simp
      apply hK; clear hK K
      refine L_true (by simp) ?_
      refine L_block ?_
      refine L_reg [0, 6, 7, 8, 9] (fun K hK0 => ?_)
      simp [okFn_low]
      have := siftDown_ac (sb := sb) D κ r ver k L a d H1 (fun v H' => K [(0, SV sb r 0 n ver), (6, .int .i64 a), (7, .int .i64 0), (8, .int .i64 L), (9, .int .i64 k)] H') (hC.keep hK) hrow (hD.perm hS.1) (by omega) (by omega) (by omega) (fun i hi => hH i (by omega)) (fun H2 m hS2 hH2 hr2 hK2 => ?_)
      · rw [hdl] at this; exact this
      apply hK0; clear hK0 K
      refine L_reg [0, 6, 7, 8, 9] (fun K hK => ?_)
      simp [wrap_i64 (a := (k : Int) - 1) (by omega)]
      apply hK; clear hK K
      exact ⟨k, [.int .i64 ((k : Int) - 1)], by omega, by simp, m, by omega, hS.trans (hS2.wide (by omega) (by omega)), fun i hi => hH2 i hi, rfl, hr2, hK.trans hK2⟩
  rintro _ H1 ⟨d, v11, v21, hS, hH, hrow, hK, rfl⟩
  refine L_reg [0, 6, 7, 10] (fun K hK => ?_)
  simp [hL1, wrap_i64 (a := (l0 : Int)) (by omega)]
  apply hK; clear hK K
  refine L_block (L_loopV [10] (fun k vs H' => ∃ d : List Int, k ≤ L ∧ Shuf a (a + L) c d ∧ (∀ i, Hp κ a k d i) ∧ (∀ p q, p < q → k ≤ q → q < L → κ (g d (a + p)) ≤ κ (g d (a + q))) ∧ vs = [.int .i64 ((k : Int) - 1)] ∧ Rw r ver H' d ∧ KeepX r H H') L [.int .i64 l0] rfl ⟨d, Nat.le_refl _, hS, hH, fun p q h1 h2 h3 => by omega, by rw [hL1], hrow, hK⟩ ?_)
  clear hS hH hrow hK d H1
  rintro k _ H1 ⟨d, hk, hS, hH, hT, rfl, hrow, hK⟩
  have hdl : d.length = n := by rw [hS.len]; exact hn
  cases k with
  | zero =>
    refine L_reg [0, 6, 7, 10, 30] (fun K hK => ?_)
    simp
    apply hK; clear hK K
    refine L_false (by simp) (L_exit ?_)
    refine ⟨.inl rfl, _, rfl, h H1 d hS (fun p q h1 h2 h3 => ?_) hrow hK⟩
    have := hT (p - a) (q - a) (by omega) (by omega) (by omega)
    rw [show a + (p - a) = p by omega, show a + (q - a) = q by omega] at this
    exact this
  | succ k =>
    have hk1 : (k : Int) + 1 - 1 = k := by omega
    refine L_reg [0, 6, 7, 10, 30] (fun K hK => ?_)
    simp
    apply hK; clear hK K
    refine L_true (by simp) ?_
    refine L_block ?_
    obtain ⟨ib, hib⟩ : ∃ ix : Nat, (a : Int) + k = ix := ⟨a + k, by omega⟩
    have hibn : ib = a + k := by omega
    have hx := hrow.ld (i := a) (by omega)
    have hy := hrow.ld (i := ib) (by omega)
    have ga : a < n := by omega
    have gb : ib < n := by omega
    obtain ⟨H2, H3, e1, e2, e3, e4⟩ := hrow.swap (i := a) (j := ib) (by omega) (by omega)
    refine L_regT mixed [0, 6, 7, 10] (by kernel_rfl) (fun K hK => ?_)
    simp [hib, ga, gb, hx, hy, e1, e2, wrap_i64 (a := (ib : Int)) (by omega)]
    apply hK; clear hK K
    subst hibn
    have w0 := sw_i (c := d) (i := a) (j := a + k) (by omega) (by omega)
    have w1 := sw_j (c := d) (i := a) (j := a + k) (by omega) (by omega)
    have w2 := fun (k' : Nat) (k1 : k' ≠ a) (k2 : k' ≠ a + k) => sw_o (c := d) (i := a) (j := a + k) (by omega) (by omega) k1 k2
    have hmax := heap_max hH
    have hS3 : Shuf a (a + L) c (sw d a (a + k)) := hS.trans (.swap (by omega) (by omega) (by omega))
    have hl3 : (sw d a (a + k)).length = n := by rw [hS3.len]; exact hn
    have hK3 := hK.trans e4
    have hH3 : ∀ i, 0 < i → Hp κ a k (sw d a (a + k)) i := by
      intro i hi q' q1 q2
      rw [w2 _ (by omega) (by omega), w2 _ (by omega) (by omega)]
      exact hH i q' q1 (by omega)
    have hT3 : ∀ p q, p < q → k ≤ q → q < L → κ (g (sw d a (a + k)) (a + p)) ≤ κ (g (sw d a (a + k)) (a + q)) := by
      intro p q' h1 h2 h3
      by_cases e : q' = k
      · subst e
        rw [w1]
        by_cases e0 : p = 0
        · subst e0
          have := hmax q' (by omega)
          rw [Nat.add_zero] at *
          rw [w0]
          exact this
        · rw [w2 _ (by omega) (by omega)]
          exact hmax p (by omega)
      · rw [w2 (a + q') (by omega) (by omega)]
        by_cases e0 : p = 0
        · subst e0
          rw [Nat.add_zero, w0]
          exact hT k q' (by omega) (by omega) h3
        · by_cases e1 : p = k
          · subst e1
            rw [w1]
            exact hT 0 q' (by omega) (by omega) h3
          · rw [w2 (a + p) (by omega) (by omega)]
            exact hT p q' h1 (by omega) h3
    refine L_reg [0, 6, 7, 10] (fun K hK0 => ?_)
    simp [okFn_low]
    have := siftDown_ac (sb := sb) D κ r ver 0 k a (sw d a (a + k)) H3 (fun v H' => K [(0, SV sb r 0 n ver), (6, .int .i64 a), (7, .int .i64 0), (10, .int .i64 k)] H') (hC.keep hK3) e3 (hD.perm hS3.1) (by omega) (by omega) (by omega) hH3 (fun H4 m hS4 hH4 hr4 hK4 => ?_)
    · rw [hl3] at this; exact this
    apply hK0; clear hK0 K
    refine L_reg [0, 6, 7, 10] (fun K hK => ?_)
    simp [wrap_i64 (a := (k : Int) - 1) (by omega)]
    apply hK; clear hK K
    refine ⟨k, [.int .i64 ((k : Int) - 1)], by omega, by simp, m, by omega, hS3.trans (hS4.wide (by omega) (by omega)), fun i => hH4 i (by omega), fun p q' h1 h2 h3 => ?_, rfl, hr4, hK3.trans hK4⟩
    rw [hS4.2 (a + q') (by omega)]
    by_cases hp : p < k
    · have := hS4.all (by omega) (p := fun x => κ x ≤ κ (g (sw d a (a + k)) (a + q'))) (fun k' h4 h5 => by
        have := hT3 (k' - a) q' (by omega) h2 h3
        rw [show a + (k' - a) = k' by omega] at this
        exact this) (a + p) (by omega) (by omega)
      exact this
    · rw [hS4.2 (a + p) (by omega)]
      exact hT3 p q' h1 h2 h3
end Go.Proofs.Ytmlhekfkniibmaa.Ord

/- Sorting numbers (Brk). -/
namespace Go.Proofs.Ytmlhekfkniibmaa.Ord
open Go Go.Proofs.Ytmlhekfkniibmaa.AX Go.Proofs.Ytmlhekfkniibmaa
variable {sb : Bool}

set_option maxRecDepth 100000 in
theorem break_ac (r ver a l : Nat) (c : List Int) (H : AH) (Q : AV → AH → Prop) (hr : Rw r ver H c) (hrl : r < H.length) (hlen : c.length ≤ 127) (hl : 12 < l) (hb : a + l ≤ c.length)
    (h : ∀ (H' : AH) (m : List Int), Shuf a (a + l) c m → Rw r ver H' m → KeepX r H H' → Q (.tuple []) H') : AC Try.prog 82 [SV sb r 0 c.length ver, .int .i64 a, .int .i64 (a + l : Nat)] H Q := by
  refine L_body 65 Try.func82 rfl rfl ?_
  have hq : ((l : Int)).tdiv 4 = ((l / 4 : Nat) : Int) := by rw [Int.tdiv_eq_ediv_of_nonneg (by omega)]; rfl
  obtain ⟨q, hq0⟩ : ∃ q, q = l / 4 := ⟨_, rfl⟩
  rw [← hq0] at hq
  obtain ⟨j0, hj0⟩ : ∃ i : Nat, (a : Int) + (q : Int) * 2 = i := ⟨a + q * 2, by omega⟩
  obtain ⟨i0, hi0⟩ : ∃ i : Nat, (j0 : Int) - 1 = i := ⟨j0 - 1, by omega⟩
  generalize hn : c.length = n at *
  refine L_reg [0, 1, 6] (fun K hK => ?_)
  simp [show ((a : Int) + l - a) = l by omega, wrap_i64 (a := (l : Int)) (by omega)]
  apply hK; clear hK K
  refine L_reg [0, 1, 6, 15] (fun K hK => ?_)
  simp
  apply hK; clear hK K
  refine L_true (by simp; omega) ?_
  have hsv : ∀ x : Int, storeV Try.prog 86 (H ++ [AObj.row [.int .u64 0] 0 0 false]) (.ptr H.length 0 0) (.int .u64 x) = some (none, H ++ [.row [.int .u64 x] 0 0 false]) := fun x => store_last sc86 (y := .int .u64 0) rfl rfl
  refine L_reg [0, 1, 6, 7] (fun K hK => ?_)
  simp [cvC l (by omega), alloc_z zt86, hsv]
  apply hK; clear hK K
  have hK1 : KeepX r H (H ++ [AObj.row [.int .u64 l] 0 0 false]) := (KeepX.refl r H).ext (.push _ _)
  have hr1 := hr.ext (.push H [AObj.row [.int .u64 l] 0 0 false])
  have hx1 : (H ++ [AObj.row [.int .u64 l] 0 0 false])[H.length]? = some (.row [.int .u64 l] 0 0 false) := by simp
  generalize H ++ [AObj.row [.int .u64 l] 0 0 false] = H1 at hK1 hr1 hx1 ⊢
  generalize hp : H.length = p at *
  have hpl := pow_len (n := l) (by omega) (by omega)
  refine L_reg [0, 1, 6, 7, 8] (fun K hK => ?_)
  simp [okFn_low]
  refine nextPow_ac l H1 _ (by omega) (by omega) ?_
  generalize 2 ^ lenN l = md at hpl ⊢
  simp
  apply hK; clear hK K
  refine L_reg [0, 1, 6, 7, 8, 9] (fun K hK => ?_)
  simp [hq, wrap_i64 (a := (q : Int)) (by omega), wrap_i64 (a := (q : Int) * 2) (by omega), hj0, wrap_i64 (a := (j0 : Int)) (by omega), hi0, wrap_i64 (a := (i0 : Int)) (by omega)]
  apply hK; clear hK K
  refine L_block (L_loopV [9] (fun k vs H' => ∃ (i : Nat) (d : List Int) (x : Int) (s : Nat), k = j0 + 2 - i ∧ i0 ≤ i ∧ i ≤ j0 + 2 ∧ Shuf a (a + l) c d ∧ vs = [.int .i64 i] ∧ Rw r ver H' d ∧ KeepX r H H' ∧ H'[p]? = some (.row [.int .u64 x] 0 s false)) _ [.int .i64 i0] rfl ⟨i0, c, l, 0, rfl, by omega, by omega, .refl _ _ _, rfl, hr1, hK1, hx1⟩ ?_)
  clear hr1 hK1 hx1 H1
  rintro k _ H1 ⟨i, d, x, s, rfl, hi1, hi2, hS, rfl, hrow, hK, hx⟩
  have hdl : d.length = n := by rw [hS.len]; exact hn
  refine L_reg [0, 1, 6, 7, 8, 9, 33] (fun K hK => ?_)
  simp [hq, wrap_i64 (a := (q : Int)) (by omega), wrap_i64 (a := (q : Int) * 2) (by omega), hj0, wrap_i64 (a := (j0 : Int)) (by omega), wrap_i64 (a := (j0 : Int) + 1) (by omega)]
  apply hK; clear hK K
  refine L_dec ((i : Int) ≤ j0 + 1) (by simp) (fun hlt => ?_) (fun hge => L_exit ?_)
  · refine L_block ?_
    refine L_reg [0, 1, 6, 7, 8, 9, 10] (fun K hK0 => ?_)
    simp [okFn_low]
    refine next_ac p s x H1 _ hx (fun y H2 hy hK2 => ?_)
    have hmd : IntKind.u64.wrap ((md : Int) - 1) = ((md - 1 : Nat) : Int) := by rw [wrap_u64 (by omega)]; omega
    obtain ⟨m1, hm1⟩ : ∃ m1 : Nat, md - 1 = m1 := ⟨_, rfl⟩
    rw [hm1] at hmd
    obtain ⟨z, hz, hand⟩ := and_low (P := Try.prog) (t := 50) (l := (litOp (.tmp 36) || litOp (.tmp 38))) y m1 (by omega)
    simp [hmd, hand, cvB z (by omega)]
    apply hK0; clear hK0 K
    have hrow2 : Rw r ver H2 d := by
      obtain ⟨s', tl', h'⟩ := hrow
      exact ⟨s', tl', hK2.row (by omega) h'⟩
    have hK12 : KeepX r H H2 := ⟨Nat.le_trans hK.1 hK2.1, fun j j1 j2 => by rw [hK2.2 j (by omega) (by have := hK.1; omega), hK.2 j j1 j2]⟩
    refine L_reg [0, 1, 6, 7, 8, 9, 10, 43] (fun K hK => ?_)
    simp
    apply hK; clear hK K
    refine L_condK [0, 1, 6, 7, 8, 9, 10] (fun e' H' => ∃ o : Nat, o < l ∧ e' = [(0, SV sb r 0 n ver), (1, .int .i64 a), (6, .int .i64 l), (7, .ptr p 0 0), (8, .int .u64 md), (9, .int .i64 i), (10, .int .i64 (o : Nat))] ∧ H2 = H') (t := decide (l ≤ z)) (by simp) (fun ht => ?_) (fun ht => ?_) ?_
    · have hle : l ≤ z := of_decide_eq_true ht
      obtain ⟨o, ho⟩ : ∃ o : Nat, (z : Int) - l = o := ⟨z - l, by omega⟩
      refine L_reg [0, 1, 6, 7, 8, 9, 10] (fun K hK => ?_)
      simp [ho, wrap_i64 (a := (o : Int)) (by omega)]
      apply hK; clear hK K
      exact ⟨o, by omega, by simp, rfl⟩
    · exact ⟨z, by have := of_decide_eq_false ht; omega, by simp, rfl⟩
    rintro _ _ ⟨o, hol, rfl, rfl⟩
    obtain ⟨ib, hib⟩ : ∃ ix : Nat, (a : Int) + o = ix := ⟨a + o, by omega⟩
    have h1 := hrow2.ld (i := i) (by omega)
    have h2 := hrow2.ld (i := ib) (by omega)
    have ga : i < n := by omega
    have gb : ib < n := by omega
    obtain ⟨H3, H4, e1, e2, e3, e4⟩ := hrow2.swap (i := i) (j := ib) (by omega) (by omega)
    refine L_regT mixed [0, 1, 6, 7, 8, 9] (by kernel_rfl) (fun K hK => ?_)
    simp [hib, ga, gb, h1, h2, e1, e2, wrap_i64 (a := (ib : Int)) (by omega)]
    apply hK; clear hK K
    refine L_reg [0, 1, 6, 7, 8, 9] (fun K hK => ?_)
    simp [wrap_i64 (a := (i : Int) + 1) (by omega)]
    apply hK; clear hK K
    exact ⟨j0 + 2 - (i + 1), [.int .i64 (i + 1 : Nat)], by omega, by simp, i + 1, _, y, 0, rfl, by omega, by omega, hS.trans (.swap (by omega) (by omega) (by omega)), rfl, e3, hK12.trans e4, e4.row (by omega) hy⟩
  · exact ⟨.inl rfl, _, rfl, h H1 d hS hrow hK⟩
end Go.Proofs.Ytmlhekfkniibmaa.Ord

/- Sorting numbers (Pins). -/
namespace Go.Proofs.Ytmlhekfkniibmaa.Ord
open Go Go.Proofs.Ytmlhekfkniibmaa.AX Go.Proofs.Ytmlhekfkniibmaa
variable {sb : Bool}

set_option maxRecDepth 100000 in
theorem partial_ac (D : Int → Prop) (κ : Int → Int) (r ver a b : Nat) (c : List Int) (H : AH) (Q : AV → AH → Prop) (hC : CmpO D κ r H) (hr : Rw r ver H c) (hD : All D c) (hl : c.length ≤ 1000000) (hab : a < b) (hb : b ≤ c.length) (hpre : 0 < a → ∀ k, a ≤ k → k < b → κ (g c (a - 1)) ≤ κ (g c k))
    (h : ∀ (H' : AH) (m : List Int) (t : Bool), Shuf a b c m → (t = true → Srt κ a b m) → Rw r ver H' m → KeepX r H H' → Q (.bool t) H') : AC Try.prog 85 [SV sb r 0 c.length ver, .int .i64 a, .int .i64 b] H Q := by
  refine L_body 133 Try.func85 rfl rfl ?_
  generalize hn : c.length = n at *
  refine L_reg [0, 1, 2] (fun K hK => ?_)
  simp
  apply hK; clear hK K
  refine L_reg [0, 1, 2, 7] (fun K hK => ?_)
  simp [wrap_i64 (a := (a : Int) + 1) (by omega)]
  apply hK; clear hK K
  refine L_reg [0, 1, 2, 7, 8] (fun K hK => ?_)
  simp
  apply hK; clear hK K
  refine L_block (L_loopV [7, 8] (fun k vs H' => ∃ (i jj : Nat) (d : List Int), k = 5 - jj ∧ jj ≤ 5 ∧ a ≤ i ∧ i + 1 ≤ b ∧ Shuf a b c d ∧ Srt κ a (i + 1) d ∧ vs = [.int .i64 ((i : Int) + 1), .int .i64 jj] ∧ Rw r ver H' d ∧ KeepX r H H') _ [.int .i64 ((a : Int) + 1), .int .i64 (0 : Nat)] rfl ⟨a, 0, c, rfl, by omega, by omega, by omega, .refl _ _ _, fun p q h1 h2 h3 => by omega, rfl, hr, .refl r H⟩ ?_)
  rintro k _ H1 ⟨i, jj, d, rfl, hjj, hai, hib, hS, hso, rfl, hrow, hK⟩
  refine L_reg [0, 1, 2, 7, 8, 14] (fun K hK => ?_)
  simp
  apply hK; clear hK K
  refine L_dec ((jj : Int) < 5) (by simp) (fun hlt => ?_) (fun hge => L_exit ?_)
  · refine L_block ?_
    have hjl : jj < 5 := by omega
    have hdl : d.length = n := by rw [hS.len]; exact hn
    have hdD := hD.perm hS.1
    have hCk := hC.keep hK
    refine L_blockR (fun e' H' => ∃ (i2 : Nat) (v16 v : AV), i ≤ i2 ∧ i2 + 1 ≤ b ∧ Srt κ a (i2 + 1) d ∧ (i2 + 1 < b → κ (g d (i2 + 1)) < κ (g d i2)) ∧ e' = [(0, SV sb r 0 n ver), (1, .int .i64 a), (2, .int .i64 b), (7, .int .i64 ((i2 : Int) + 1)), (8, .int .i64 (jj : Nat)), (14, v16), (32, v)] ∧ H1 = H') (L_loopV [7] (fun k vs H' => ∃ i2 : Nat, k = b - i2 ∧ i ≤ i2 ∧ i2 + 1 ≤ b ∧ Srt κ a (i2 + 1) d ∧ vs = [.int .i64 ((i2 : Int) + 1)] ∧ H1 = H') _ [.int .i64 ((i : Int) + 1)] rfl ⟨i, rfl, by omega, by omega, hso, rfl, rfl⟩ ?_) ?_
    · rintro k _ _ ⟨i2, rfl, h1, h2, h3, rfl, rfl⟩
      by_cases hc : i2 + 1 < b
      · have hcq : (i2 : Int) + 1 < b := by omega
        have hx := hrow.ld (i := i2 + 1) (by omega)
        have hy := hrow.ld (i := i2) (by omega)
        have hw : IntKind.i64.wrap (i2 : Int) = (i2 : Int) := wrap_i64 (by omega)
        have t1 : ((i2 : Int) + 1).toNat = i2 + 1 := by omega
        have t2 : (0 : Int) ≤ (i2 : Int) + 1 := by omega
        have t3 : (i2 : Int) + 1 < (n : Int) := by omega
        have t4 : i2 < n := by omega
        refine L_regT mixed [0, 1, 2, 7, 8, 14, 32] (by kernel_rfl) (fun K hK => ?_)
        simp [okFn_low, hw, t1, t2, t3, t4, hx, hy, hcq]
        refine exC_mk (fun Q hQ => hCk.2 H1 (.refl _ _) _ _ (hdD (i2 + 1) (by omega)) (hdD i2 (by omega)) Q hQ) ?_
        simp [pickV]
        apply hK; clear hK K
        by_cases hless : κ (g d (i2 + 1)) < κ (g d i2)
        · have := cmpS_neg.2 hless
          refine L_false (by simpa using this) (L_exit ?_)
          exact ⟨i2, _, _, h1, h2, h3, fun _ => hless, rfl, rfl⟩
        · have : ¬ cmpS (κ (g d (i2 + 1))) (κ (g d i2)) < 0 := fun h => hless (cmpS_neg.1 h)
          refine L_true (by simpa using this) ?_
          refine L_block ?_
          refine L_reg [0, 1, 2, 7, 8, 14] (fun K hK => ?_)
          simp [wrap_i64 (a := (i2 : Int) + 1 + 1) (by omega)]
          apply hK; clear hK K
          exact ⟨b - (i2 + 1), [.int .i64 (((i2 + 1 : Nat) : Int) + 1)], by omega, by simp, i2 + 1, rfl, by omega, by omega, h3.more (by omega) (by omega), rfl, rfl⟩
      · have hcq : ¬ (i2 : Int) + 1 < b := by omega
        refine L_regT mixed [0, 1, 2, 7, 8, 14, 32] (by kernel_rfl) (fun K hK => ?_)
        simp [pickV, hcq]
        apply hK; clear hK K
        refine L_false (by simp) (L_exit ?_)
        exact ⟨i2, _, _, h1, h2, h3, fun h => absurd h hc, rfl, rfl⟩
    rintro _ _ ⟨i2, v16, v36, hi2, hi2b, hso2, hstop, rfl, rfl⟩
    clear hso
    refine L_reg [0, 1, 2, 7, 8, 37] (fun K hK => ?_)
    simp
    apply hK; clear hK K
    refine L_split rfl (fun heq => ?_) (fun hne => ?_)
    · have : i2 + 1 = b := by have := eq_of_beq heq; omega
      refine L_reg [6] (fun K hK => ?_)
      simp
      apply hK; clear hK K
      subst this
      exact L_ret ⟨.inr rfl, _, rfl, h H1 d true hS (fun _ => hso2) hrow hK⟩
    have hib2 : i2 + 1 < b := by
      have : ¬ (i2 : Int) + 1 = b := by simpa using hne
      omega
    refine L_reg [0, 1, 2, 7, 8, 41] (fun K hK => ?_)
    simp [wrap_i64 (a := (b : Int) - a) (by omega)]
    apply hK; clear hK K
    refine L_dec ((b : Int) - a < 50) (by simp) (fun h50 => ?_) (fun h50 => ?_)
    · refine L_reg [6] (fun K hK => ?_)
      simp
      apply hK; clear hK K
      exact L_ret ⟨.inr rfl, _, rfl, h H1 d false hS (fun h => by cases h) hrow hK⟩
    have hx := hrow.ld (i := i2 + 1) (by omega)
    have hy := hrow.ld (i := i2) (by omega)
    have hw : IntKind.i64.wrap (i2 : Int) = (i2 : Int) := wrap_i64 (by omega)
    have t1 : ((i2 : Int) + 1).toNat = i2 + 1 := by omega
    have t2 : (0 : Int) ≤ (i2 : Int) + 1 := by omega
    have t3 : (i2 : Int) + 1 < (n : Int) := by omega
    have t4 : i2 < n := by omega
    obtain ⟨H2, H3, e1, e2, e3, e4⟩ := hrow.swap (i := i2 + 1) (j := i2) (by omega) (by omega)
    refine L_regT mixed [0, 1, 2, 7, 8] (by kernel_rfl) (fun K hK => ?_)
    simp [hw, t1, t2, t3, t4, hx, hy, e1, e2]
    apply hK; clear hK K
    have w0 := sw_i (c := d) (i := i2 + 1) (j := i2) (by omega) (by omega)
    have w1 := sw_j (c := d) (i := i2 + 1) (j := i2) (by omega) (by omega)
    have w2 := fun (k : Nat) (k1 : k ≠ i2 + 1) (k2 : k ≠ i2) => sw_o (c := d) (i := i2 + 1) (j := i2) (by omega) (by omega) k1 k2
    have hS3 : Shuf a b c (sw d (i2 + 1) i2) := hS.trans (.swap (by omega) (by omega) (by omega))
    have hole : ∀ p q, a ≤ p → p < q → q ≤ i2 → q ≠ i2 → κ (g (sw d (i2 + 1) i2) p) ≤ κ (g (sw d (i2 + 1) i2) q) := by
      intro p q h1 h2 h3 h4
      rw [w2 p (by omega) (by omega), w2 q (by omega) (by omega)]
      exact hso2 p q h1 h2 (by omega)
    have hK3 := hK.trans e4
    generalize sw d (i2 + 1) i2 = d3 at e3 hS3 hole
    clear w0 w1 w2 e1 e2 hx hy hw t1 t2 t3 t4 hrow hK hdD hCk hdl hS hstop hso2 e4
    clear hlt hne h50
    clear H2
    have hrow := e3
    have hS := hS3
    have hK := hK3
    clear e3 hS3 hK3
    refine L_reg [0, 1, 2, 7, 8, 61] (fun K hK => ?_)
    simp [wrap_i64 (a := (i2 : Int) + 1 - a) (by omega)]
    apply hK; clear hK K
    refine L_condK [0, 1, 2, 7, 8] (fun e' H' => ∃ d : List Int, Shuf a b c d ∧ Srt κ a (i2 + 1) d ∧ Rw r ver H' d ∧ KeepX r H H' ∧ e' = [(0, SV sb r 0 n ver), (1, .int .i64 a), (2, .int .i64 b), (7, .int .i64 ((i2 : Int) + 1)), (8, .int .i64 (jj : Nat))]) (t := decide ((2 : Int) ≤ (i2 : Int) + 1 - a)) (by simp) (fun ht => ?_) (fun ht => ?_) ?_
    · have h2 : (2 : Int) ≤ (i2 : Int) + 1 - a := of_decide_eq_true ht
      refine L_reg [0, 1, 2, 7, 8, 9] (fun K hK => ?_)
      simp [wrap_i64 (a := (i2 : Int)) (by omega)]
      apply hK; clear hK K
      refine L_block (L_loopV [9] (fun k vs H' => ∃ (j : Nat) (d : List Int), k = j ∧ a ≤ j ∧ j ≤ i2 ∧ Shuf a b c d ∧ (∀ p q, a ≤ p → p < q → q ≤ i2 → q ≠ j → κ (g d p) ≤ κ (g d q)) ∧ vs = [.int .i64 j] ∧ Rw r ver H' d ∧ KeepX r H H') _ [.int .i64 i2] rfl ⟨i2, d3, rfl, by omega, by omega, hS, hole, rfl, hrow, hK⟩ ?_)
      clear hS hole hrow hK
      clear d3 H3 d H1
      rintro k _ H1 ⟨j, d, rfl, haj, hji, hS, ho, rfl, hrow, hK⟩
      have hdl : d.length = n := by rw [hS.len]; exact hn
      have hdD := hD.perm hS.1
      have hCk := hC.keep hK
      cases k with
      | zero =>
        refine L_reg [0, 1, 2, 7, 8, 9, 65] (fun K hK => ?_)
        simp
        apply hK; clear hK K
        refine L_false (by simp) (L_exit ?_)
        exact ⟨d, hS, fun p q h1 h2 h3 => ho p q h1 h2 (by omega) (by omega), hrow, hK, rfl⟩
      | succ j =>
        refine L_reg [0, 1, 2, 7, 8, 9, 65] (fun K hK => ?_)
        simp
        apply hK; clear hK K
        refine L_true (by simp; omega) ?_
        refine L_block ?_
        have hx := hrow.ld (i := j + 1) (by omega)
        have hy := hrow.ld (i := j) (by omega)
        have hw : IntKind.i64.wrap (j : Int) = (j : Int) := wrap_i64 (by omega)
        have t1 : ((j : Int) + 1).toNat = j + 1 := by omega
        have t2 : (0 : Int) ≤ (j : Int) + 1 := by omega
        have t3 : (j : Int) + 1 < (n : Int) := by omega
        have t4 : j < n := by omega
        refine L_regT mixed [0, 1, 2, 7, 8, 9, 78] (by kernel_rfl) (fun K hK => ?_)
        simp [okFn_low, hw, t1, t2, t3, t4, hx, hy]
        refine exC_mk (fun Q hQ => hCk.2 H1 (.refl _ _) _ _ (hdD (j + 1) (by omega)) (hdD j (by omega)) Q hQ) ?_
        simp
        apply hK; clear hK K
        by_cases hless : κ (g d (j + 1)) < κ (g d j)
        · have := cmpS_neg.2 hless
          refine L_false (by simpa using this) ?_
          have haj2 : a ≤ j := by
            by_cases e : a ≤ j
            · exact e
            · have ea : a = j + 1 := by omega
              exfalso
              have h5 := hS.all (by omega) (p := fun x => κ (g c (a - 1)) ≤ κ x) (fun k h6 h7 => hpre (by omega) k h6 h7) (j + 1) (by omega) (by omega)
              rw [← hS.2 (a - 1) (by omega), show a - 1 = j by omega] at h5
              have h5 : κ (g d j) ≤ κ (g d (j + 1)) := h5
              omega
          obtain ⟨H2, H3, e1, e2, e3, e4⟩ := hrow.swap (i := j + 1) (j := j) (by omega) (by omega)
          refine L_regT mixed [0, 1, 2, 7, 8, 9] (by kernel_rfl) (fun K hK => ?_)
          simp [hw, t1, t2, t3, t4, hx, hy, e1, e2]
          apply hK; clear hK K
          refine L_reg [0, 1, 2, 7, 8, 9] (fun K hK => ?_)
          simp [hw]
          apply hK; clear hK K
          refine ⟨j, [.int .i64 (j : Nat)], by omega, by simp, j, _, rfl, by omega, by omega, hS.trans (.swap (by omega) (by omega) (by omega)), fun p q h1 h2 h3 h4 => ?_, rfl, e3, hK.trans e4⟩
          have w0 := sw_i (c := d) (i := j + 1) (j := j) (by omega) (by omega)
          have w1 := sw_j (c := d) (i := j + 1) (j := j) (by omega) (by omega)
          have w2 := fun (k : Nat) (k1 : k ≠ j + 1) (k2 : k ≠ j) => sw_o (c := d) (i := j + 1) (j := j) (by omega) (by omega) k1 k2
          by_cases q1 : q = j + 1
          · subst q1
            by_cases p1 : p = j
            · subst p1; rw [w0, w1]; omega
            · rw [w0, w2 p (by omega) p1]
              exact ho p j h1 (by omega) (by omega) (by omega)
          · rw [w2 q q1 h4]
            by_cases p1 : p = j
            · subst p1; rw [w1]
              exact ho (p + 1) q (by omega) (by omega) h3 (by omega)
            · by_cases p2 : p = j + 1
              · subst p2; rw [w0]
                exact ho j q (by omega) (by omega) h3 (by omega)
              · rw [w2 p p2 p1]
                exact ho p q h1 h2 h3 (by omega)
        · have : ¬ cmpS (κ (g d (j + 1))) (κ (g d j)) < 0 := fun h => hless (cmpS_neg.1 h)
          refine L_true (by simpa using this) (L_exit ?_)
          refine ⟨d, hS, fun p q h1 h2 h3 => ?_, hrow, hK, rfl⟩
          by_cases q1 : q = j + 1
          · subst q1
            by_cases p1 : p = j
            · subst p1; omega
            · have := ho p j h1 (by omega) (by omega) (by omega)
              omega
          · exact ho p q h1 h2 (by omega) q1
    · have h2 : ¬ (2 : Int) ≤ (i2 : Int) + 1 - a := of_decide_eq_false ht
      exact ⟨d3, hS, fun p q h1 h2 h3 => by omega, hrow, hK, by simp⟩
    clear hS hole hrow hK
    clear d3 H3 d H1
    rintro _ H1 ⟨d, hS, hso, hrow, hK, rfl⟩
    refine L_reg [0, 1, 2, 7, 8, 98] (fun K hK => ?_)
    simp [wrap_i64 (a := (b : Int) - ((i2 : Int) + 1)) (by omega)]
    apply hK; clear hK K
    refine L_dec ((2 : Int) ≤ (b : Int) - ((i2 : Int) + 1)) (by simp) (fun h2 => ?_) (fun h2 => ?_)
    · refine L_reg [0, 1, 2, 7, 8, 10] (fun K hK => ?_)
      simp [wrap_i64 (a := (i2 : Int) + 1 + 1) (by omega)]
      apply hK; clear hK K
      refine L_blockR (fun e' H' => ∃ (d : List Int) (v12 v x : AV), Shuf a b c d ∧ Srt κ a (i2 + 1) d ∧ Rw r ver H' d ∧ KeepX r H H' ∧ (e' = [(0, SV sb r 0 n ver), (1, .int .i64 a), (2, .int .i64 b), (7, .int .i64 ((i2 : Int) + 1)), (8, .int .i64 (jj : Nat)), (10, v12), (103, v)] ∨ e' = [(0, SV sb r 0 n ver), (1, .int .i64 a), (2, .int .i64 b), (7, .int .i64 ((i2 : Int) + 1)), (8, .int .i64 (jj : Nat)), (10, v12), (116, v)])) (L_loopV [10] (fun k vs H' => ∃ (j : Nat) (d : List Int), k = b - j ∧ i2 + 1 ≤ j ∧ j + 1 ≤ b ∧ Shuf a b c d ∧ Srt κ a (i2 + 1) d ∧ vs = [.int .i64 ((j : Int) + 1)] ∧ Rw r ver H' d ∧ KeepX r H H') _ [.int .i64 ((i2 : Int) + 1 + 1)] rfl ⟨i2 + 1, d, rfl, by omega, by omega, hS, hso, rfl, hrow, hK⟩ ?_) ?_
      · clear hS hso hrow hK
        clear d H1
        rintro k _ H1 ⟨j, d, rfl, h1, h2, hS, hso, rfl, hrow, hK⟩
        have hdl : d.length = n := by rw [hS.len]; exact hn
        have hdD := hD.perm hS.1
        have hCk := hC.keep hK
        refine L_reg [0, 1, 2, 7, 8, 10, 103] (fun K hK => ?_)
        simp
        apply hK; clear hK K
        refine L_dec ((j : Int) + 1 < b) (by simp) (fun hlt => ?_) (fun hge => L_exit ?_)
        · refine L_block ?_
          have hx := hrow.ld (i := j + 1) (by omega)
          have hy := hrow.ld (i := j) (by omega)
          have hw : IntKind.i64.wrap (j : Int) = (j : Int) := wrap_i64 (by omega)
          have t1 : ((j : Int) + 1).toNat = j + 1 := by omega
          have t2 : (0 : Int) ≤ (j : Int) + 1 := by omega
          have t3 : (j : Int) + 1 < (n : Int) := by omega
          have t4 : j < n := by omega
          refine L_regT mixed [0, 1, 2, 7, 8, 10, 116] (by kernel_rfl) (fun K hK => ?_)
          simp [okFn_low, hw, t1, t2, t3, t4, hx, hy]
          refine exC_mk (fun Q hQ => hCk.2 H1 (.refl _ _) _ _ (hdD (j + 1) (by omega)) (hdD j (by omega)) Q hQ) ?_
          simp
          apply hK; clear hK K
          by_cases hless : κ (g d (j + 1)) < κ (g d j)
          · have := cmpS_neg.2 hless
            refine L_false (by simpa using this) ?_
            obtain ⟨H2, H3, e1, e2, e3, e4⟩ := hrow.swap (i := j + 1) (j := j) (by omega) (by omega)
            refine L_regT mixed [0, 1, 2, 7, 8, 10] (by kernel_rfl) (fun K hK => ?_)
            simp [hw, t1, t2, t3, t4, hx, hy, e1, e2]
            apply hK; clear hK K
            refine L_reg [0, 1, 2, 7, 8, 10] (fun K hK => ?_)
            simp [wrap_i64 (a := (j : Int) + 1 + 1) (by omega)]
            apply hK; clear hK K
            refine ⟨b - (j + 1), [.int .i64 (((j + 1 : Nat) : Int) + 1)], by omega, by simp, j + 1, _, rfl, by omega, by omega, hS.trans (.swap (by omega) (by omega) (by omega)), fun p q h1 h2 h3 => ?_, rfl, e3, hK.trans e4⟩
            have w2 := fun (k : Nat) (k1 : k ≠ j + 1) (k2 : k ≠ j) => sw_o (c := d) (i := j + 1) (j := j) (by omega) (by omega) k1 k2
            rw [w2 p (by omega) (by omega), w2 q (by omega) (by omega)]
            exact hso p q h1 h2 h3
          · have : ¬ cmpS (κ (g d (j + 1))) (κ (g d j)) < 0 := fun h => hless (cmpS_neg.1 h)
            refine L_true (by simpa using this) (L_exit ?_)
            exact ⟨d, _, _, .undef, hS, hso, hrow, hK, .inr rfl⟩
        · exact ⟨d, _, _, .undef, hS, hso, hrow, hK, .inl rfl⟩
      clear hS hso hrow hK
      clear d H1
      rintro _ H1 ⟨d, v12, v, -, hS, hso, hrow, hK, rfl | rfl⟩
      · refine L_reg [0, 1, 2, 7, 8] (fun K hK => ?_)
        simp [wrap_i64 (a := (jj : Int) + 1) (by omega)]
        apply hK; clear hK K
        exact ⟨5 - (jj + 1), [.int .i64 ((i2 : Int) + 1), .int .i64 (jj + 1 : Nat)], by omega, by simp, i2, jj + 1, d, rfl, by omega, by omega, by omega, hS, hso, rfl, hrow, hK⟩
      · refine L_reg [0, 1, 2, 7, 8] (fun K hK => ?_)
        simp [wrap_i64 (a := (jj : Int) + 1) (by omega)]
        apply hK; clear hK K
        exact ⟨5 - (jj + 1), [.int .i64 ((i2 : Int) + 1), .int .i64 (jj + 1 : Nat)], by omega, by simp, i2, jj + 1, d, rfl, by omega, by omega, by omega, hS, hso, rfl, hrow, hK⟩
    · refine L_reg [0, 1, 2, 7, 8] (fun K hK => ?_)
      simp [wrap_i64 (a := (jj : Int) + 1) (by omega)]
      apply hK; clear hK K
      exact ⟨5 - (jj + 1), [.int .i64 ((i2 : Int) + 1), .int .i64 (jj + 1 : Nat)], by omega, by simp, i2, jj + 1, d, rfl, by omega, by omega, by omega, hS, hso, rfl, hrow, hK⟩
  · refine L_reg [6] (fun K hK => ?_)
    simp
    apply hK; clear hK K
    exact L_ret ⟨.inr rfl, _, rfl, h H1 d false hS (fun h => by cases h) hrow hK⟩
end Go.Proofs.Ytmlhekfkniibmaa.Ord

/- Sorting numbers (Pdq). -/
namespace Go.Proofs.Ytmlhekfkniibmaa.Ord
open Go Go.Proofs.Ytmlhekfkniibmaa.AX Go.Proofs.Ytmlhekfkniibmaa
variable {sb : Bool}

set_option maxRecDepth 100000 in
theorem pivot_ac' (D : Int → Prop) (κ : Int → Int) (r ver a b l : Nat) (hbl : b = a + l) (c : List Int) (n : Nat) (hn : c.length = n) (H : AH) (Q : AV → AH → Prop) (hC : CmpO D κ r H) (hr : Rw r ver H c) (hrl : r < H.length) (hD : All D c) (hlen : n ≤ 1000000) (hl : 12 < l) (hb : b ≤ n)
    (h : ∀ (H' : AH) (x : Nat) (hint : Int), a ≤ x ∧ x < b → KeepX r H H' → Rw r ver H' c → Q (.tuple [.int .i64 x, .int .i64 hint]) H') : AC Try.prog 83 [SV sb r 0 n ver, .int .i64 a, .int .i64 b] H Q := by
  subst hbl; subst hn; exact pivot_ac D κ r ver a l c H Q hC hr hrl hD hlen hl hb h
set_option maxRecDepth 100000 in
theorem break_ac' (r ver a b l : Nat) (hbl : b = a + l) (c : List Int) (n : Nat) (hn : c.length = n) (H : AH) (Q : AV → AH → Prop) (hr : Rw r ver H c) (hrl : r < H.length) (hlen : n ≤ 127) (hl : 12 < l) (hb : b ≤ n)
    (h : ∀ (H' : AH) (m : List Int), Shuf a b c m → Rw r ver H' m → KeepX r H H' → Q (.tuple []) H') : AC Try.prog 82 [SV sb r 0 n ver, .int .i64 a, .int .i64 b] H Q := by
  subst hbl; subst hn; exact break_ac r ver a l c H Q hr hrl hlen hl hb h
set_option maxRecDepth 100000 in
theorem heapSort_ac' (D : Int → Prop) (κ : Int → Int) (r ver a b l : Nat) (hbl : b = a + l) (c : List Int) (n : Nat) (hn : c.length = n) (H : AH) (Q : AV → AH → Prop) (hC : CmpO D κ r H) (hr : Rw r ver H c) (hD : All D c) (hl : n ≤ 1000000) (hb : b ≤ n) (hl1 : 1 ≤ l)
    (h : ∀ (H' : AH) (m : List Int), Shuf a b c m → Srt κ a b m → Rw r ver H' m → KeepX r H H' → Q (.tuple []) H') : AC Try.prog 81 [SV sb r 0 n ver, .int .i64 a, .int .i64 b] H Q := by
  subst hbl; subst hn; exact heapSort_ac D κ r ver a l c H Q hC hr hD hl hb hl1 h
set_option maxRecDepth 100000 in
theorem partEq_ac' (D : Int → Prop) (κ : Int → Int) (r ver a b pv : Nat) (c : List Int) (n : Nat) (hn : c.length = n) (H : AH) (Q : AV → AH → Prop) (hC : CmpO D κ r H) (hr : Rw r ver H c) (hD : All D c) (hl : n ≤ 1000000) (hpa : a ≤ pv) (hpb : pv < b) (hb : b ≤ n)
    (h : ∀ (H' : AH) (m : List Int) (p : Nat), a < p → p ≤ b → Shuf a b c m → (∀ k, a ≤ k → k < p → κ (g m k) ≤ κ (g c pv)) → (∀ k, p ≤ k → k < b → κ (g c pv) < κ (g m k)) → Rw r ver H' m → KeepX r H H' → Q (.int .i64 p) H') : AC Try.prog 87 [SV sb r 0 n ver, .int .i64 a, .int .i64 b, .int .i64 pv] H Q := by
  subst hn; exact partEq_ac D κ r ver a b pv c H Q hC hr hD hl hpa hpb hb h
set_option maxRecDepth 100000 in
theorem part_ac' (D : Int → Prop) (κ : Int → Int) (r ver a b pv : Nat) (c : List Int) (n : Nat) (hn : c.length = n) (H : AH) (Q : AV → AH → Prop) (hC : CmpO D κ r H) (hr : Rw r ver H c) (hD : All D c) (hl : n ≤ 1000000) (hpa : a ≤ pv) (hpb : pv < b) (hb : b ≤ n)
    (h : ∀ (H' : AH) (m : List Int) (p : Nat) (bb : Bool), a ≤ p → p < b → Shuf a b c m → (∀ k, a ≤ k → k < p → κ (g m k) ≤ κ (g m p)) → (∀ k, p < k → k < b → κ (g m p) ≤ κ (g m k)) → Rw r ver H' m → KeepX r H H' → Q (.tuple [.int .i64 p, .bool bb]) H') : AC Try.prog 88 [SV sb r 0 n ver, .int .i64 a, .int .i64 b, .int .i64 pv] H Q := by
  subst hn; exact part_ac D κ r ver a b pv c H Q hC hr hD hl hpa hpb hb h
set_option maxRecDepth 100000 in
theorem pdq_ac (D : Int → Prop) (κ : Int → Int) (r ver n : Nat) (hn127 : n ≤ 127) : ∀ (N a b lim : Nat) (c : List Int) (H : AH) (Q : AV → AH → Prop), b - a < N → CmpO D κ r H → Rw r ver H c → r < H.length → All D c → c.length = n → a ≤ b → b ≤ n → lim ≤ 1000 → Pre κ a b c →
    (∀ (H' : AH) (m : List Int), Shuf a b c m → Srt κ a b m → Rw r ver H' m → KeepX r H H' → Q (.tuple []) H') → AC Try.prog 79 [SV sb r 0 n ver, .int .i64 a, .int .i64 b, .int .i64 lim] H Q := by
  intro N
  induction N with
  | zero => intro a b lim c H Q h; omega
  | succ N ih =>
  intro a b lim c H Q hN hC hr hrl hD hn hab hb hlim hpre h
  refine L_body 134 Try.func79 rfl rfl ?_
  refine L_reg [0, 1, 2, 3, 8] (fun K hK => ?_)
  simp
  apply hK; clear hK K
  refine L_reg [0, 1, 2, 3, 8, 9] (fun K hK => ?_)
  simp
  apply hK; clear hK K
  refine L_block (L_loopV [1, 2, 3, 8, 9] (fun k vs H' => ∃ (a' b' lm : Nat) (wb wp : Bool) (d : List Int), k = b' - a' ∧ a ≤ a' ∧ a' ≤ b' ∧ b' ≤ b ∧ lm ≤ 1000 ∧ Shuf a b c d ∧ OrdEx κ a b a' b' d ∧ Pre κ a' b' d ∧ vs = [.int .i64 a', .int .i64 b', .int .i64 lm, .bool wb, .bool wp] ∧ Rw r ver H' d ∧ KeepX r H H') _ [.int .i64 a, .int .i64 b, .int .i64 lim, .bool true, .bool true] rfl ⟨a, b, lim, true, true, c, rfl, by omega, hab, by omega, hlim, .refl _ _ _, fun p q h1 h2 h3 h4 => by omega, hpre, rfl, hr, .refl r H⟩ ?_)
  rintro _ _ H1 ⟨a', b', lm, wb, wp, d, rfl, haa, hab', hbb, hlm, hS, hO, hP, rfl, hrow, hK⟩
  refine L_block ?_
  obtain ⟨l, hbl⟩ : ∃ l, b' = a' + l := ⟨b' - a', by omega⟩
  have hdl : d.length = n := by rw [hS.len]; exact hn
  have hdD := hD.perm hS.1
  have hCk := hC.keep hK
  have hr1 : r < H1.length := by have := hK.1; omega
  refine L_reg [0, 1, 2, 3, 8, 9, 10] (fun K hK => ?_)
  simp [show ((b' : Int) - a') = l by omega, wrap_i64 (a := (l : Int)) (by omega)]
  apply hK; clear hK K
  refine L_reg [0, 1, 2, 3, 8, 9, 10, 23] (fun K hK => ?_)
  simp
  apply hK; clear hK K
  refine L_dec ((l : Int) ≤ 12) (by simp) (fun h12 => ?_) (fun h12 => ?_)
  · refine L_reg [] (fun K hK0 => ?_)
    simp [okFn_low]
    have := insertion_ac (sb := sb) D κ r ver a' b' d H1 (fun v H' => K [] H') hCk hrow hdD (by omega) (by omega) (by omega) (fun H2 m m1 m2 m3 m4 => ?_)
    · rw [hdl] at this; exact this
    apply hK0; clear hK0 K
    exact L_ret ⟨.inr rfl, _, rfl, h H2 m (hS.trans (m1.wide haa hbb)) ((hO.mix m1 (by omega) haa hbb).srt m2) m3 (hK.trans m4)⟩
  refine L_reg [0, 1, 2, 3, 8, 9, 10, 29] (fun K hK => ?_)
  simp
  apply hK; clear hK K
  refine L_split rfl (fun h0 => ?_) (fun h0 => ?_)
  · refine L_reg [] (fun K hK0 => ?_)
    simp [okFn_low]
    refine heapSort_ac' D κ r ver a' b' l hbl d n hdl H1 _ hCk hrow hdD (by omega) (by omega) (by omega) (fun H2 m m1 m2 m3 m4 => ?_)
    simp
    apply hK0; clear hK0 K
    exact L_ret ⟨.inr rfl, _, rfl, h H2 m (hS.trans (m1.wide haa hbb)) ((hO.mix m1 (by omega) haa hbb).srt m2) m3 (hK.trans m4)⟩
  have hlm0 : 1 ≤ lm := by
    have : (lm : Int) ≠ 0 := by simpa using h0
    omega
  refine L_reg [0, 1, 2, 3, 8, 9, 10, 35] (fun K hK => ?_)
  simp
  apply hK; clear hK K
  refine L_condK [0, 1, 2, 3, 8, 9, 10] (fun e' H' => ∃ (lm : Nat) (d : List Int), lm ≤ 1000 ∧ Shuf a b c d ∧ OrdEx κ a b a' b' d ∧ Pre κ a' b' d ∧ Rw r ver H' d ∧ KeepX r H H' ∧ e' = [(0, SV sb r 0 n ver), (1, .int .i64 a'), (2, .int .i64 b'), (3, .int .i64 (lm : Nat)), (8, .bool wb), (9, .bool wp), (10, .int .i64 l)]) (t := !wb) rfl (fun ht => ?_) (fun ht => ?_) ?_
  · refine L_reg [0, 1, 2, 3, 8, 9, 10] (fun K hK0 => ?_)
    simp [okFn_low]
    refine break_ac' r ver a' b' l hbl d n hdl H1 _ hrow hr1 hn127 (by omega) (by omega) (fun H2 m m1 m3 m4 => ?_)
    simp
    apply hK0; clear hK0 K
    obtain ⟨lm', rfl⟩ : ∃ x, lm = x + 1 := ⟨lm - 1, by omega⟩
    refine L_reg [0, 1, 2, 3, 8, 9, 10] (fun K hK => ?_)
    simp [wrap_i64 (a := (lm' : Int)) (by omega)]
    apply hK; clear hK K
    exact ⟨lm', m, by omega, hS.trans (m1.wide haa hbb), hO.mix m1 (by omega) haa hbb, hP.mix m1 (by omega), m3, hK.trans m4, by simp⟩
  · exact ⟨lm, d, hlm, hS, hO, hP, hrow, hK, by simp⟩
  clear hlm hS hO hP hrow hK hdl hdD hCk hr1 hlm0 h0
  clear d H1 lm
  rintro _ H1 ⟨lm, d, hlm, hS, hO, hP, hrow, hK, rfl⟩
  have hdl : d.length = n := by rw [hS.len]; exact hn
  have hdD := hD.perm hS.1
  have hr1 : r < H1.length := by have := hK.1; omega
  refine L_reg [0, 1, 2, 3, 8, 9, 10, 11, 12] (fun K hK0 => ?_)
  simp [okFn_low]
  refine pivot_ac' D κ r ver a' b' l hbl d n hdl H1 _ (hC.keep hK) hrow hr1 hdD (by omega) (by omega) (by omega) (fun H2 pv hint hpv m4 m3 => ?_)
  simp
  apply hK0; clear hK0 K
  have hK2 := hK.trans m4
  clear hrow hK hr1
  refine L_reg [0, 1, 2, 3, 8, 9, 10, 11, 12, 50] (fun K hK => ?_)
  simp
  apply hK; clear hK K
  refine L_condK [0, 1, 2, 3, 8, 9, 10, 11, 12] (fun e' H' => ∃ (pv : Nat) (hint : Int) (d : List Int), (a' ≤ pv ∧ pv < b') ∧ Shuf a b c d ∧ OrdEx κ a b a' b' d ∧ Pre κ a' b' d ∧ Rw r ver H' d ∧ KeepX r H H' ∧ e' = [(0, SV sb r 0 n ver), (1, .int .i64 a'), (2, .int .i64 b'), (3, .int .i64 lm), (8, .bool wb), (9, .bool wp), (10, .int .i64 l), (11, .int .i64 (pv : Nat)), (12, .int .i64 hint)]) (t := (hint == 2)) rfl (fun ht => ?_) (fun ht => ?_) ?_
  · refine L_reg [0, 1, 2, 3, 8, 9, 10, 11] (fun K hK0 => ?_)
    simp [okFn_low]
    have := reverse_ac (sb := sb) r ver a' b' d H2 (fun v H' => K [(0, SV sb r 0 n ver), (1, .int .i64 a'), (2, .int .i64 b'), (3, .int .i64 lm), (8, .bool wb), (9, .bool wp), (10, .int .i64 l), (11, .int .i64 pv)] H') m3 (by omega) (by omega) (by omega) (fun H3 m q1 q3 q4 => ?_)
    · rw [hdl] at this; exact this
    apply hK0; clear hK0 K
    obtain ⟨pv2, hpv2⟩ : ∃ x : Nat, (b' : Int) - 1 - ((pv : Int) - a') = x := ⟨b' - 1 - (pv - a'), by omega⟩
    refine L_reg [0, 1, 2, 3, 8, 9, 10, 11] (fun K hK => ?_)
    simp [wrap_i64 (a := (b' : Int) - 1) (by omega), wrap_i64 (a := (pv : Int) - a') (by omega), hpv2, wrap_i64 (a := (pv2 : Int)) (by omega)]
    apply hK; clear hK K
    refine L_reg [0, 1, 2, 3, 8, 9, 10, 11, 12] (fun K hK => ?_)
    simp
    apply hK; clear hK K
    exact ⟨pv2, 1, m, by omega, hS.trans (q1.wide haa hbb), hO.mix q1 (by omega) haa hbb, hP.mix q1 (by omega), q3, hK2.trans q4, by simp⟩
  · exact ⟨pv, hint, d, hpv, hS, hO, hP, m3, hK2, by simp⟩
  clear hS hO hP hdl hdD m3 m4 hK2 hpv
  clear d H1 H2 pv hint
  rintro _ H1 ⟨pv, hint, d, hpv, hS, hO, hP, hrow, hK, rfl⟩
  have hdl : d.length = n := by rw [hS.len]; exact hn
  have hdD := hD.perm hS.1
  refine L_reg [0, 1, 2, 3, 8, 9, 10, 11, 68] (fun K hK0 => ?_)
  have hK2 : ∀ t : Bool, K [(0, SV sb r 0 n ver), (1, .int .i64 a'), (2, .int .i64 b'), (3, .int .i64 lm), (8, .bool wb), (9, .bool wp), (10, .int .i64 l), (11, .int .i64 pv), (68, .bool t)] H1 := by
    intro t
    refine hK0 _ _ ?_
    clear hK0 K
    refine L_condK [0, 1, 2, 3, 8, 9, 10, 11] (fun e' H' => ∃ (d : List Int), Shuf a b c d ∧ OrdEx κ a b a' b' d ∧ Pre κ a' b' d ∧ Rw r ver H' d ∧ KeepX r H H' ∧ e' = [(0, SV sb r 0 n ver), (1, .int .i64 a'), (2, .int .i64 b'), (3, .int .i64 lm), (8, .bool wb), (9, .bool wp), (10, .int .i64 l), (11, .int .i64 (pv : Nat))]) (t := t) rfl (fun ht => ?_) (fun ht => ?_) ?_
    · refine L_reg [0, 1, 2, 3, 8, 9, 10, 11, 72] (fun K hK0 => ?_)
      simp [okFn_low]
      have := partial_ac (sb := sb) D κ r ver a' b' d H1 (fun v H' => K [(0, SV sb r 0 n ver), (1, .int .i64 a'), (2, .int .i64 b'), (3, .int .i64 lm), (8, .bool wb), (9, .bool wp), (10, .int .i64 l), (11, .int .i64 pv), (72, v)] H') (hC.keep hK) hrow hdD (by omega) (by omega) (by omega) hP (fun H3 m t q1 q2 q3 q4 => ?_)
      · rw [hdl] at this; exact this
      apply hK0; clear hK0 K
      cases t with
      | true =>
        refine L_true rfl ?_
        exact L_ret ⟨.inr rfl, _, rfl, h H3 m (hS.trans (q1.wide haa hbb)) ((hO.mix q1 (by omega) haa hbb).srt (q2 rfl)) q3 (hK.trans q4)⟩
      | false =>
        refine L_false rfl ?_
        exact ⟨m, hS.trans (q1.wide haa hbb), hO.mix q1 (by omega) haa hbb, hP.mix q1 (by omega), q3, hK.trans q4, by simp⟩
    · exact ⟨d, hS, hO, hP, hrow, hK, by simp⟩
    clear hS hO hP hrow hK hdl hdD
    clear d H1
    rintro _ H1 ⟨d, hS, hO, hP, hrow, hK, rfl⟩
    have hdl : d.length = n := by rw [hS.len]; exact hn
    have hdD := hD.perm hS.1
    have hCk := hC.keep hK
    refine L_regT mixed [0, 1, 2, 3, 8, 9, 10, 11, 87] (by kernel_rfl) (fun K hK0 => ?_)
    have hK2 : ∀ t : Bool, (t = true → 0 < a' ∧ ¬ κ (g d (a' - 1)) < κ (g d pv)) → K [(0, SV sb r 0 n ver), (1, .int .i64 a'), (2, .int .i64 b'), (3, .int .i64 lm), (8, .bool wb), (9, .bool wp), (10, .int .i64 l), (11, .int .i64 pv), (87, .bool t)] H1 := by
      intro t ht
      refine hK0 _ _ ?_
      clear hK0 K
      refine L_split rfl (fun ht2 => ?_) (fun ht2 => ?_)
      · obtain ⟨hpos, hge⟩ := ht ht2
        have hmin : ∀ k, a' ≤ k → k < b' → κ (g d pv) ≤ κ (g d k) := fun k k1 k2 => Int.le_trans (Int.not_lt.1 hge) (hP hpos k k1 k2)
        refine L_reg [0, 2, 3, 8, 9, 13] (fun K hK0 => ?_)
        simp [okFn_low]
        refine partEq_ac' D κ r ver a' b' pv d n hdl H1 _ hCk hrow hdD (by omega) hpv.1 hpv.2 (by omega) (fun H2 m p p1 p2 m1 m2 m5 m3 m4 => ?_)
        simp
        apply hK0; clear hK0 K
        have hmin2 := m1.all (by omega) (p := fun x => κ (g d pv) ≤ κ x) hmin
        refine L_reg [0, 1, 2, 3, 8, 9] (fun K hK => ?_)
        simp
        apply hK; clear hK K
        refine L_exit ?_
        refine ⟨b' - p, [.int .i64 (p : Nat), .int .i64 b', .int .i64 lm, .bool wb, .bool wp], by omega, by simp, p, b', lm, wb, wp, m, rfl, by omega, by omega, hbb, hlm, hS.trans (m1.wide haa hbb), fun q1 q2 h1 h2 h3 h4 => ?_, fun hp0 k k1 k2 => ?_, rfl, m3, hK.trans m4⟩
        · by_cases e : a' ≤ q1 ∧ q2 < b'
          · have e1 := m2 q1 e.1 (by omega)
            exact Int.le_trans e1 (hmin2 q2 (by omega) e.2)
          · exact (hO.mix m1 (by omega) haa hbb) q1 q2 h1 h2 h3 e
        · exact Int.le_trans (m2 (p - 1) (by omega) (by omega)) (Int.le_of_lt (m5 k k1 k2))
      · clear ht
        refine L_reg [0, 1, 2, 3, 10, 14, 15] (fun K hK0 => ?_)
        simp [okFn_low]
        refine part_ac' D κ r ver a' b' pv d n hdl H1 _ hCk hrow hdD (by omega) hpv.1 hpv.2 (by omega) (fun H2 m p bb p1 p2 m1 m2 m5 m3 m4 => ?_)
        simp
        apply hK0; clear hK0 K
        have hml : m.length = n := by rw [m1.len, hdl]
        have hS2 := hS.trans (m1.wide haa hbb)
        have hO2 := hO.mix m1 (by omega) haa hbb
        have hP2 := hP.mix m1 (by omega)
        have hK3 := hK.trans m4
        have hr3 : r < H2.length := by have := hK3.1; omega
        clear hS hO hP hrow hK hdl hdD hCk m1 m4
        clear hpv ht2 d H1
        refine L_reg [0, 1, 2, 3, 9, 10, 14] (fun K hK => ?_)
        simp
        apply hK; clear hK K
        obtain ⟨ll, hll⟩ : ∃ x : Nat, (p : Int) - a' = x := ⟨p - a', by omega⟩
        obtain ⟨rl, hrl2⟩ : ∃ x : Nat, (b' : Int) - p = x := ⟨b' - p, by omega⟩
        have hq8 : ((l : Int)).tdiv 8 = ((l / 8 : Nat) : Int) := by rw [Int.tdiv_eq_ediv_of_nonneg (by omega)]; rfl
        obtain ⟨q8, hq80⟩ : ∃ q, q = l / 8 := ⟨_, rfl⟩
        rw [← hq80] at hq8
        refine L_reg [0, 1, 2, 3, 9, 10, 14, 16, 17] (fun K hK => ?_)
        simp [hll, hrl2, wrap_i64 (a := (ll : Int)) (by omega), wrap_i64 (a := (rl : Int)) (by omega)]
        apply hK; clear hK K
        refine L_reg [0, 1, 2, 3, 9, 14, 16, 17, 18] (fun K hK => ?_)
        simp [hq8, wrap_i64 (a := (q8 : Int)) (by omega)]
        apply hK; clear hK K
        refine L_reg [0, 1, 2, 3, 9, 14, 16, 17, 18, 113] (fun K hK => ?_)
        simp
        apply hK; clear hK K
        refine L_dec (ll < rl) (by simp) (fun hlr => ?_) (fun hlr => ?_)
        · refine L_reg [0, 1, 2, 3, 8, 9, 14] (fun K hK => ?_)
          simp
          apply hK; clear hK K
          refine L_reg [0, 2, 3, 8, 9, 14] (fun K hK0 => ?_)
          simp [okFn_low]
          refine ih a' p lm m H2 _ (by omega) (hC.keep hK3) m3 hr3 (hD.perm hS2.1) hml p1 (by omega) hlm (fun h0 k k1 k2 => hP2 h0 k k1 (by omega)) (fun H3 m' s1 s2 s3 s4 => ?_)
          simp
          apply hK0; clear hK0 K
          refine L_reg [0, 1, 2, 3, 8, 9] (fun K hK => ?_)
          simp [wrap_i64 (a := (p : Int) + 1) (by omega)]
          apply hK; clear hK K
          have hm5 := s1.all (by omega) (p := fun x => κ x ≤ κ (g m p)) m2
          have hpm : g m' p = g m p := s1.2 p (by omega)
          refine ⟨b' - (p + 1), [.int .i64 (p + 1 : Nat), .int .i64 b', .int .i64 lm, .bool (decide (q8 ≤ ll)), .bool bb], by omega, by simp, p + 1, b', lm, decide (q8 ≤ ll), bb, m', rfl, by omega, by omega, hbb, hlm, hS2.trans (s1.wide haa (by omega)), fun q1 q2 h1 h2 h3 h4 => ?_, fun hp0 k k1 k2 => ?_, rfl, s3, hK3.trans s4⟩
          · by_cases e : a' ≤ q1 ∧ q2 < b'
            · by_cases e2 : q2 < p
              · exact s2 q1 q2 e.1 h2 e2
              · by_cases e3 : q2 = p
                · subst e3; rw [hpm]; exact hm5 q1 e.1 (by omega)
                · have e4 : κ (g m p) ≤ κ (g m' q2) := by rw [s1.2 q2 (by omega)]; exact m5 q2 (by omega) e.2
                  by_cases e5 : q1 = p
                  · rw [e5, hpm]; exact e4
                  · exact Int.le_trans (hm5 q1 e.1 (by omega)) e4
            · exact (hO2.mix (s1.wide (Nat.le_refl _) (by omega)) (by omega) haa hbb) q1 q2 h1 h2 h3 e
          · rw [show p + 1 - 1 = p by omega, hpm, s1.2 k (by omega)]
            exact m5 k (by omega) k2
        · refine L_reg [0, 1, 2, 3, 8, 9, 14] (fun K hK => ?_)
          simp
          apply hK; clear hK K
          refine L_reg [0, 1, 3, 8, 9, 14] (fun K hK0 => ?_)
          simp [okFn_low, wrap_i64 (a := (p : Int) + 1) (by omega)]
          refine ih (p + 1) b' lm m H2 _ (by omega) (hC.keep hK3) m3 hr3 (hD.perm hS2.1) hml (by omega) (by omega) hlm (fun h0 k k1 k2 => by rw [show p + 1 - 1 = p by omega]; exact m5 k (by omega) k2) (fun H3 m' s1 s2 s3 s4 => ?_)
          simp
          apply hK0; clear hK0 K
          refine L_reg [0, 1, 2, 3, 8, 9] (fun K hK => ?_)
          simp
          apply hK; clear hK K
          have hm5 := s1.all (by omega) (p := fun x => κ (g m p) ≤ κ x) (fun k k1 k2 => m5 k (by omega) k2)
          have hpm : g m' p = g m p := s1.2 p (by omega)
          refine ⟨p - a', [.int .i64 a', .int .i64 (p : Nat), .int .i64 lm, .bool (decide (q8 ≤ rl)), .bool bb], by omega, by simp, a', p, lm, decide (q8 ≤ rl), bb, m', rfl, by omega, by omega, by omega, hlm, hS2.trans (s1.wide (by omega) hbb), fun q1 q2 h1 h2 h3 h4 => ?_, fun hp0 k k1 k2 => ?_, rfl, s3, hK3.trans s4⟩
          · by_cases e : a' ≤ q1 ∧ q2 < b'
            · by_cases e2 : p < q1
              · exact s2 q1 q2 (by omega) h2 e.2
              · by_cases e3 : q1 = p
                · subst e3; rw [hpm]; exact hm5 q2 (by omega) e.2
                · have e4 : κ (g m' q1) ≤ κ (g m p) := by rw [s1.2 q1 (by omega)]; exact m2 q1 e.1 (by omega)
                  by_cases e5 : q2 = p
                  · rw [e5, hpm]; exact e4
                  · exact Int.le_trans e4 (hm5 q2 (by omega) e.2)
            · exact (hO2.mix (s1.wide (by omega) (Nat.le_refl _)) (by omega) haa hbb) q1 q2 h1 h2 h3 e
          · rw [s1.2 k (by omega), s1.2 (a' - 1) (by omega)]
            exact hP2 hp0 k k1 (by omega)
    by_cases hpos : 0 < a'
    · obtain ⟨a0, ha0⟩ : ∃ a0 : Nat, (a' : Int) - 1 = a0 := ⟨a' - 1, by omega⟩
      have ha0n : a' - 1 = a0 := by omega
      have hx := hrow.ld (i := a0) (by omega)
      have hy := hrow.ld (i := pv) (by omega)
      have t1 : a0 < n := by omega
      have t2 : pv < n := by omega
      simp [okFn_low, hpos, ha0, t1, t2, hx, hy, wrap_i64 (a := (a0 : Int)) (by omega)]
      refine exC_mk (fun Q hQ => hCk.2 H1 (.refl _ _) _ _ (hdD a0 (by omega)) (hdD pv (by omega)) Q hQ) ?_
      simp [pickV]
      refine hK2 _ (fun ht => ⟨hpos, fun h => ?_⟩)
      rw [ha0n] at h
      have := cmpS_neg.2 h
      simp at ht
      omega
    · have ha0 : a' = 0 := by omega
      subst ha0
      simp [pickV]
      exact hK2 false (fun h => by cases h)
  cases wb <;> cases wp <;> simp [pickV] <;> exact hK2 _
end Go.Proofs.Ytmlhekfkniibmaa.Ord

/- slices.Sort of a part of a row; slices.Equal. -/
namespace Go.Proofs.Ytmlhekfkniibmaa
open Go Go.Proofs.Ytmlhekfkniibmaa.AX
variable {sb : Bool}
theorem isNaN_ac (a : Int) (H : AH) (Q : AV → AH → Prop) (h : Q (.bool false) H) : AC Try.prog 94 [.int .i64 a] H Q := by
  refine L_body 6 Try.func94 rfl rfl ?_
  refine L_reg [0] (fun K hK => ?_)
  simp
  apply hK; clear hK K
  refine L_reg [2] (fun K hK => ?_)
  simp
  apply hK; clear hK K
  exact L_ret ⟨.inr rfl, _, rfl, by simpa using h⟩
theorem Less_ac (a b : Int) (H : AH) (Q : AV → AH → Prop) (h : Q (.bool (decide (a < b))) H) : AC Try.prog 86 [.int .i64 a, .int .i64 b] H Q := by
  refine L_body 17 Try.func86 rfl rfl ?_
  refine L_reg [0, 1] (fun K hK => ?_)
  simp
  apply hK; clear hK K
  refine L_reg [4] (fun K hK => ?_)
  simp [okFn_low]
  refine isNaN_ac a _ _ ?_
  simp [pickV]
  apply hK; clear hK K
  exact L_ret ⟨.inr rfl, _, rfl, by simpa using h⟩
theorem lessO (r : Nat) (H : AH) : Ord.CmpO (fun _ => True) (fun x => x) r H := by
  refine ⟨trivial, fun H' _ x y _ _ Q h => Less_ac x y H' Q ?_⟩
  have : decide (Ord.cmpS x y < 0) = decide (x < y) := by rw [decide_eq_decide]; exact Ord.cmpS_neg
  rw [this] at h; exact h
set_option maxRecDepth 100000 in
theorem Sort_ac (r ver : Nat) (c : List Int) (n : Nat) (hn : c.length = n) (H : AH) (Q : AV → AH → Prop) (hr : Ord.Rw r ver H c) (hrl : r < H.length) (hl : n ≤ 127)
    (h : ∀ (H' : AH) (m : List Int), m.Perm c → Ord.Srt (fun x => x) 0 n m → Ord.Rw r ver H' m → KeepX r H H' → Q (.tuple []) H') : AC Try.prog 76 [SV sb r 0 n ver] H Q := by
  refine L_body 11 Try.func76 rfl rfl ?_
  refine L_reg [0, 2] (fun K hK => ?_)
  simp
  apply hK; clear hK K
  refine L_reg [] (fun K hK0 => ?_)
  simp [okFn_low, Ord.cvA n (by omega)]
  refine Ord.Len_ac n H _ (by omega) ?_
  simp [okFn_low]
  have h7 : Ord.lenN n ≤ 7 := by
    unfold Ord.lenN
    repeat' split
    all_goals first | decide | omega
  have := Ord.pdq_ac (sb := sb) (fun _ => True) (fun x => x) r ver n hl (n + 1) 0 n (Ord.lenN n) c H (fun v H' => K [] H') (by omega) (lessO r H) hr hrl (fun _ _ => trivial) hn (by omega) (Nat.le_refl _) (by omega) (fun h0 => by omega) (fun H2 m s1 s2 s3 s4 => ?_)
  · exact this
  apply hK0; clear hK0 K
  exact ⟨.inl rfl, _, rfl, h H2 m s1.1 s2 s3 s4⟩
theorem Equal_ac (b : Bool) (r ver off n : Nat) (l m : List Int) (v : AV) (H : AH) (Q : AV → AH → Prop) (hr : ∀ i, i < n → ld H r (off + i) ver = some (.int .i64 (g l i))) (hn : l.length = n) (hlen : n ≤ 1000000) (hv : Ls H v m) (h : Q (.bool (decide (l = m))) H) : AC Try.prog 77 [SV b r off n ver, v] H Q := by
  obtain ⟨r2, off2, ver2, sz2, full2, rfl, hv⟩ := hv
  refine L_body 26 Try.func77 rfl rfl ?_
  refine L_reg [0, 1] (fun K hK => ?_)
  simp
  apply hK; clear hK K
  refine L_reg [0, 1, 10] (fun K hK => ?_)
  simp
  apply hK; clear hK K
  by_cases hlm : n = m.length
  case neg =>
    refine L_true (by simp; omega) ?_
    refine L_reg [4] (fun K hK => ?_)
    simp
    apply hK; clear hK K
    have : l ≠ m := fun e => hlm (by rw [← hn, e])
    rw [decide_eq_false this] at h
    exact L_ret ⟨.inr rfl, _, rfl, h⟩
  refine L_false (by simp [hlm]) ?_
  refine L_reg [0, 1, 12, 13] (fun K hK => ?_)
  simp
  apply hK; clear hK K
  refine L_block (L_loopV [13] (fun k vs H' => ∃ (i : Nat), k = n - i ∧ i ≤ n ∧ (l.drop i = m.drop i → l = m) ∧ vs = [.int .i64 i] ∧ H' = H) _ [.int .i64 (0 : Nat)] rfl ⟨0, rfl, by omega, by simp, rfl, rfl⟩ ?_)
  rintro k _ _ ⟨i, rfl, hi, hs, rfl, rfl⟩
  refine L_reg [0, 1, 12, 13, 14] (fun K hK => ?_)
  simp
  apply hK; clear hK K
  refine L_dec (i < n) (by simp) (fun hlt => ?_) (fun hge => L_exit ?_)
  · have hld := hr i hlt
    obtain ⟨r3, rfl, rfl, hld2⟩ := hv i (by omega)
    have him : i < m.length := by omega
    rw [List.drop_eq_getElem_cons (by omega : i < l.length), List.drop_eq_getElem_cons him] at hs
    rw [g_lt (by omega)] at hld
    refine L_block ?_
    refine L_reg [0, 1, 5, 12, 13] (fun K hK => ?_)
    simp
    apply hK; clear hK K
    refine L_regT mixed [0, 1, 12, 13, 24] (by kernel_rfl) (fun K hK => ?_)
    simp [hlt, him, hld, hld2]
    apply hK; clear hK K
    by_cases he : l[i] = m[i]
    · refine L_false (by simp [he]) ?_
      rw [he] at hs
      refine L_reg [0, 1, 12, 13] (fun K hK => ?_)
      simp [wrap_i64 (a := (i : Int) + 1) (by omega)]
      apply hK; clear hK K
      exact ⟨n - (i + 1), [.int .i64 (i + 1 : Nat)], by omega, by simp, i + 1, rfl, by omega, fun e => hs (by rw [e]), rfl, rfl⟩
    · refine L_true (by simp [he]) ?_
      refine L_reg [4] (fun K hK => ?_)
      simp
      apply hK; clear hK K
      have : l ≠ m := fun e => he (by subst e; rfl)
      rw [decide_eq_false this] at h
      exact L_ret ⟨.inr rfl, _, rfl, h⟩
  · refine L_reg [4] (fun K hK => ?_)
    simp
    apply hK; clear hK K
    have : l = m := hs (by rw [List.drop_eq_nil_of_le (by omega), List.drop_eq_nil_of_le (by omega)])
    rw [decide_eq_true this] at h
    exact L_ret ⟨.inr rfl, _, rfl, h⟩
/-- Sorted lists with the same members. -/
theorem sorted_ext : ∀ {l m : List Int}, l.Pairwise (· < ·) → m.Pairwise (· < ·) → (∀ z, z ∈ l ↔ z ∈ m) → l = m
  | [], [], _, _, _ => rfl
  | [], y :: m, _, _, h => by have := (h y).2 (by simp); simp at this
  | x :: l, [], _, _, h => by have := (h x).1 (by simp); simp at this
  | x :: l, y :: m, hl, hm, h => by
    obtain ⟨a1, a2⟩ := List.pairwise_cons.1 hl
    obtain ⟨b1, b2⟩ := List.pairwise_cons.1 hm
    have hxy : x = y := by
      rcases List.mem_cons.1 ((h x).1 (by simp)) with e | e
      · exact e
      · rcases List.mem_cons.1 ((h y).2 (by simp)) with e2 | e2
        · exact e2.symm
        · have := b1 x e; have := a1 y e2; omega
    subst hxy
    have : l = m := sorted_ext a2 b2 fun z => by
      constructor
      · intro hz
        rcases List.mem_cons.1 ((h z).1 (List.mem_cons_of_mem _ hz)) with e | e
        · have := a1 z hz; omega
        · exact e
      · intro hz
        rcases List.mem_cons.1 ((h z).2 (List.mem_cons_of_mem _ hz)) with e | e
        · have := b1 z hz; omega
        · exact e
    rw [this]
theorem perm_of_sub : ∀ {l m : List Int}, l.Nodup → (∀ x ∈ l, x ∈ m) → m.length ≤ l.length → l.Perm m
  | [], m, _, _, h => by
    have : m = [] := List.eq_nil_of_length_eq_zero (by simpa using h)
    rw [this]
  | x :: l, m, hd, hs, h => by
    obtain ⟨h1, h2⟩ := List.nodup_cons.1 hd
    have hx := hs x (by simp)
    have hp : (x :: m.erase x).Perm m := (List.perm_cons_erase hx).symm
    have hl := hp.length_eq
    refine (List.Perm.cons x (perm_of_sub h2 (fun y hy => ?_) (by simp at hl h; omega))).trans hp
    have hne : y ≠ x := fun e => h1 (by rw [← e]; exact hy)
    exact (List.mem_erase_of_ne hne).2 (hs y (by simp [hy]))
theorem ordS_perm (k : Nat) : ∀ (m : Nat) (l : List Int), l.length = m → (ordS k m l).Perm l
  | 0, l, h => by rw [List.eq_nil_of_length_eq_zero h]; exact .refl _
  | m + 1, l, h => by
    have hlt : (k - 1) % (m + 1) < l.length := by rw [h]; exact Nat.mod_lt _ (by omega)
    simp only [ordS]
    exact (List.Perm.cons _ (ordS_perm k m _ (by rw [rot_len hlt]; omega))).trans (rot_perm hlt)
theorem orderS_perm (n k : Nat) : (orderS n k).Perm (allS n) := ordS_perm k n _ (allS_len n)
end Go.Proofs.Ytmlhekfkniibmaa

/- The smallest count that fits. -/
namespace Go.Proofs.Ytmlhekfkniibmaa
open Go Go.Proofs.Ytmlhekfkniibmaa.AX

theorem last_q (n k : Nat) (h0 : 1 ≤ n) (h1 : n ≤ 1000) (h3 : 1 ≤ k) (h4 : k ≤ 1000000000000) (H : AH) (Q : AV → AH → Prop) (h : Q (.int .i64 (g (orderS n k) (n - 1))) H) : AC Try.prog 48 [.int .i64 n, .int .i64 k] H Q :=
  AC.quiet (belB_int _ _ _ _) (fun Q h => last_ac n k h0 h1 h3 h4 H Q h) Q h
/-- A function that says whether a count fits, as long as what was there stays. -/
def FitsC (f : FuncId) (caps : List AV) (P : Nat → Prop) [DecidablePred P] (H : AH) : Prop :=
  okFn Try.prog f = true ∧ ∀ k H', 1 ≤ k → k ≤ 1000 → Ext H H' → ∀ Q : AV → AH → Prop, (∀ H'', Ext H' H'' → Q (.bool (decide (P k))) H'') → AC Try.prog f ([] ++ [.int .i64 k] ++ caps) H' Q
/-- The smallest count up to 1000 with P, or none. -/
def minQ (P : Nat → Prop) (Q : AV → AH → Prop) (H : AH) : Prop :=
  (∀ k : Nat, 1 ≤ k → k ≤ 1000 → P k → (∀ j, 1 ≤ j → j < k → ¬ P j) → Q (.tuple [.int .i64 k, .int .i64 0]) H) ∧ ((∀ j, 1 ≤ j → j ≤ 1000 → ¬ P j) → Q (.tuple [.int .i64 0, .int .i64 12]) H)
theorem smallest_ac (f : FuncId) (caps : List AV) (P : Nat → Prop) [DecidablePred P] (H : AH) (Q : AV → AH → Prop) (hF : FitsC f caps P H) (h : ∀ H', Ext H H' → minQ P Q H') : AC Try.prog 63 [.func (.func f) [] caps] H Q := by
  refine L_body 16 Try.func63 rfl rfl ?_
  refine L_reg [0] (fun K hK => ?_)
  simp
  apply hK; clear hK K
  refine L_reg [0, 6] (fun K hK => ?_)
  simp
  apply hK; clear hK K
  refine L_block (L_loopV [6] (fun m vs H' => ∃ i : Nat, m = 1000 - i ∧ i ≤ 1000 ∧ (∀ j, 1 ≤ j → j ≤ i → ¬ P j) ∧ vs = [.int .i64 i] ∧ Ext H H') _ [.int .i64 0] rfl ⟨0, rfl, by omega, fun j h1 h2 => by omega, rfl, .refl _⟩ ?_)
  rintro m _ H1 ⟨i, rfl, hi, hno, rfl, hE⟩
  refine L_reg [0, 6, 7] (fun K hK => ?_)
  simp
  apply hK; clear hK K
  refine L_dec (i < 1000) (by simp; omega) (fun hlt => ?_) (fun hge => L_exit ?_)
  · refine L_block ?_
    obtain ⟨k, hk⟩ : ∃ k : Nat, k = i + 1 := ⟨_, rfl⟩
    have hki : (i : Int) + 1 = (k : Int) := by omega
    refine L_reg [0, 4, 6] (fun K hK => ?_)
    simp
    apply hK; clear hK K
    refine L_reg [0, 5, 6] (fun K hK => ?_)
    simp [hki, wrap_i64 (a := (k : Int)) (by omega)]
    apply hK; clear hK K
    refine L_reg [0, 5, 6, 13] (fun K hK => ?_)
    simp [hF.1]
    refine hF.2 k H1 (by omega) (by omega) hE _ (fun H2 E2 => ?_)
    simp
    apply hK; clear hK K
    by_cases hP : P k
    · refine L_true (by simp [hP]) ?_
      refine L_reg [2, 3] (fun K hK => ?_)
      simp
      apply hK; clear hK K
      exact L_ret ⟨.inr rfl, _, rfl, (h H2 (hE.trans E2)).1 k (by omega) (by omega) hP (fun j h1 h2 => hno j h1 (by omega))⟩
    · refine L_false (by simp [hP]) ?_
      refine L_reg [0, 6] (fun K hK => ?_)
      simp [hki, wrap_i64 (a := (k : Int)) (by omega)]
      apply hK; clear hK K
      refine ⟨1000 - k, [.int .i64 (k : Nat)], by omega, rfl, k, rfl, by omega, fun j h1 h2 => ?_, rfl, hE.trans E2⟩
      by_cases e : j = k
      · rw [e]; exact hP
      · exact hno j h1 (by omega)
  · refine L_reg [2, 3] (fun K hK => ?_)
    simp
    apply hK; clear hK K
    exact L_ret ⟨.inr rfl, _, rfl, (h H1 hE).2 (fun j h1 h2 => hno j h1 (by omega))⟩
/-- Who stays last is x. -/
def LastIs (n : Nat) (x : Int) (k : Nat) : Prop := g (orderS n k) (n - 1) = x
instance (n : Nat) (x : Int) : DecidablePred (LastIs n x) := fun k => by unfold LastIs; infer_instance
theorem fitsS_ac (n : Nat) (x : Int) (p q s t : Nat) (h0 : 1 ≤ n) (h1 : n ≤ 1000) (H : AH) (hp : H[p]? = some (.row [.int .i64 n] 0 s false)) (hq : H[q]? = some (.row [.int .i64 x] 0 t false)) : FitsC 64 [.ptr p 0 0, .ptr q 0 0] (LastIs n x) H := by
  refine ⟨okFn_low (by omega) (by omega), fun k H1 k1 k2 hE Q hQ => ?_⟩
  have l1 : ld H1 p 0 0 = some (.int .i64 n) := by rw [ld_row (hE.row hp)]; rfl
  have l2 : ld H1 q 0 0 = some (.int .i64 x) := by rw [ld_row (hE.row hq)]; rfl
  refine L_body 10 Try.func64 rfl rfl ?_
  refine L_reg [0, 1, 2] (fun K hK => ?_)
  simp
  apply hK; clear hK K
  refine L_regQ mixed [4] (by kernel_rfl) (fun K hK => ?_)
  simp [okFn_low, l1]
  refine exQ_mk (fun Q hQ => last_q n k h0 h1 k1 (by omega) _ Q hQ) ?_
  simp [l2]
  apply hK; clear hK K
  have e : decide (g (orderS n k) (n - 1) = x) = decide (LastIs n x k) := rfl
  have h2 := hQ H1 (.refl _)
  rw [← e] at h2
  exact L_ret ⟨.inr rfl, _, rfl, by simpa [Bool.beq_eq_decide_eq] using h2⟩
/-- What Smallest is asked. -/
def smallQ (n x : Int) (H : AH) (Q : AV → AH → Prop) : Prop :=
  ((1 ≤ n ∧ n ≤ 20) ∧ (0 ≤ x ∧ x < n) → minQ (LastIs n.toNat x) Q H) ∧ ((1 ≤ n ∧ n ≤ 20) ∧ ¬ (0 ≤ x ∧ x < n) → Q (.tuple [.int .i64 0, .int .i64 2]) H) ∧ (¬ (1 ≤ n ∧ n ≤ 20) → Q (.tuple [.int .i64 0, .int .i64 1]) H)
theorem Smallest_ac (n x : Int) (H : AH) (Q : AV → AH → Prop) (h : ∀ H', Ext H H' → smallQ n x H' Q) : AC Try.prog 33 [.int .i64 n, .int .i64 x] H Q := by
  refine L_body 17 Try.func33 rfl rfl ?_
  refine L_reg [2, 3] (fun K hK => ?_)
  simp [AV.isU, acells]
  apply hK; clear hK K
  have hE0 : Ext H (H ++ [AObj.row [.int .i64 n] 0 0 false, AObj.row [.int .i64 x] 0 0 false]) := .push _ _
  have hp : (H ++ [AObj.row [.int .i64 n] 0 0 false, AObj.row [.int .i64 x] 0 0 false])[H.length]? = some (.row [.int .i64 n] 0 0 false) := by simp
  have hq : (H ++ [AObj.row [.int .i64 n] 0 0 false, AObj.row [.int .i64 x] 0 0 false])[H.length + 1]? = some (.row [.int .i64 x] 0 0 false) := by simp
  generalize H ++ [AObj.row [.int .i64 n] 0 0 false, AObj.row [.int .i64 x] 0 0 false] = H1 at hE0 hp hq ⊢
  have l1 : ld H1 H.length 0 0 = some (.int .i64 n) := by rw [ld_row hp]; rfl
  have l2 : ld H1 (H.length + 1) 0 0 = some (.int .i64 x) := by rw [ld_row hq]; rfl
  obtain ⟨a1, a2, a3⟩ := h H1 hE0
  by_cases h1 : 1 ≤ n ∧ n ≤ 20
  · refine L_reg [2, 3, 8] (fun K hK => ?_)
    simp [okFn_low, l1]
    refine isBench_ac _ _ _ ?_
    simp [decide_eq_true h1]
    apply hK; clear hK K
    refine L_false (by simp) ?_
    by_cases h2 : 0 ≤ x ∧ x < n
    · refine L_reg [2, 3, 12] (fun K hK => ?_)
      simp [okFn_low, l1, l2]
      refine isRoller_ac _ _ _ _ ?_
      simp [decide_eq_true h2]
      apply hK; clear hK K
      refine L_false (by simp) ?_
      obtain ⟨n, rfl⟩ : ∃ y : Nat, n = y := ⟨n.toNat, by omega⟩
      refine L_reg [4, 5] (fun K hK => ?_)
      simp [okFn_low]
      refine smallest_ac 64 _ (LastIs n x) _ _ (fitsS_ac n x _ _ 0 0 (by omega) (by omega) H1 hp hq) (fun H2 E2 => ?_)
      obtain ⟨b1, -, -⟩ := h H2 (hE0.trans E2)
      obtain ⟨c1, c2⟩ := b1 ⟨h1, h2⟩
      simp only [Int.toNat_natCast] at c1 c2
      refine ⟨fun k k1 k2 k3 k4 => ?_, fun hno => ?_⟩
      · simp
        apply hK; clear hK K
        exact L_ret ⟨.inr rfl, _, rfl, c1 k k1 k2 k3 k4⟩
      · simp
        apply hK; clear hK K
        exact L_ret ⟨.inr rfl, _, rfl, c2 hno⟩
    · refine L_reg [2, 3, 12] (fun K hK => ?_)
      simp [okFn_low, l1, l2]
      refine isRoller_ac _ _ _ _ ?_
      simp [decide_eq_false h2]
      apply hK; clear hK K
      refine L_true (by simp) ?_
      refine L_reg [4, 5] (fun K hK => ?_)
      simp
      apply hK; clear hK K
      exact L_ret ⟨.inr rfl, _, rfl, a2 ⟨h1, h2⟩⟩
  · refine L_reg [2, 3, 8] (fun K hK => ?_)
    simp [okFn_low, l1]
    refine isBench_ac _ _ _ ?_
    simp [decide_eq_false h1]
    apply hK; clear hK K
    refine L_true (by simp) ?_
    refine L_reg [4, 5] (fun K hK => ?_)
    simp
    apply hK; clear hK K
    exact L_ret ⟨.inr rfl, _, rfl, a3 h1⟩
theorem SmallestR_ac (n x : Int) (H : AH) (Q : AV → AH → Prop) (h : ∀ H', Ext H H' → smallQ n x H' Q) : AC Try.prog 34 [.int .i64 n, .int .i64 x] H Q := by
  refine L_body 29 Try.func34 rfl rfl ?_
  refine L_reg [0, 1] (fun K hK => ?_)
  simp
  apply hK; clear hK K
  obtain ⟨a1, a2, a3⟩ := h H (.refl _)
  by_cases h1 : 1 ≤ n ∧ n ≤ 20
  · refine L_reg [0, 1, 9] (fun K hK => ?_)
    simp [okFn_low]
    refine in_ac _ _ _ _ _ ?_
    simp [decide_eq_true h1]
    apply hK; clear hK K
    refine L_false (by simp) ?_
    have w1 : IntKind.i64.wrap (n - 1) = n - 1 := wrap_i64 (by omega)
    by_cases h2 : 0 ≤ x ∧ x < n
    · have h2' : 0 ≤ x ∧ x ≤ n - 1 := by omega
      refine L_reg [0, 1, 14] (fun K hK => ?_)
      simp [okFn_low, w1]
      refine in_ac _ _ _ _ _ ?_
      simp [decide_eq_true h2']
      apply hK; clear hK K
      refine L_false (by simp) ?_
      obtain ⟨n, rfl⟩ : ∃ y : Nat, n = y := ⟨n.toNat, by omega⟩
      refine L_reg [0, 1, 6] (fun K hK => ?_)
      simp
      apply hK; clear hK K
      refine L_block (L_loopV [6] (fun m vs H' => ∃ i : Nat, m = 1000 - i ∧ i ≤ 1000 ∧ (∀ j, 1 ≤ j → j ≤ i → ¬ LastIs n x j) ∧ vs = [.int .i64 (i + 1 : Nat)] ∧ Ext H H') _ [.int .i64 1] rfl ⟨0, rfl, by omega, fun j h1 h2 => by omega, rfl, .refl _⟩ ?_)
      rintro m _ H1 ⟨i, rfl, hi, hno, rfl, hE⟩
      obtain ⟨k, hk⟩ : ∃ k : Nat, k = i + 1 := ⟨_, rfl⟩
      rw [← hk]
      refine L_reg [0, 1, 6, 16] (fun K hK => ?_)
      simp
      apply hK; clear hK K
      obtain ⟨b1, -, -⟩ := h H1 hE
      obtain ⟨c1, c2⟩ := b1 ⟨h1, h2⟩
      simp only [Int.toNat_natCast] at c1 c2
      refine L_dec (k ≤ 1000) (by simp; omega) (fun hlt => ?_) (fun hge => L_exit ?_)
      · refine L_block ?_
        have hl := orderS_len n k
        refine L_reg [0, 1, 6, 27] (fun K hK => ?_)
        simp [okFn_low]
        refine orderR_ac n k (by omega) (by omega) (by omega) _ _ (fun v H2 o2 E2 => ?_)
        obtain ⟨r, off, ver, sz, full, rfl, hld⟩ := o2.own.ls
        obtain ⟨r', rfl, rfl, hrd⟩ := hld (n - 1) (by omega)
        rw [← g_lt (by omega)] at hrd
        have e1 : ((n : Int) - 1) = ((n - 1 : Nat) : Int) := by omega
        have hlt : n - 1 < n := by omega
        simp [e1, wrap_i64 (a := ((n - 1 : Nat) : Int)) (by omega), hl, hlt, hrd]
        apply hK; clear hK K
        obtain ⟨d1, -, -⟩ := h H2 (hE.trans E2)
        obtain ⟨e3, -⟩ := d1 ⟨h1, h2⟩
        simp only [Int.toNat_natCast] at e3
        by_cases hP : LastIs n x k
        · refine L_true (by simp; exact hP) ?_
          refine L_reg [4, 5] (fun K hK => ?_)
          simp
          apply hK; clear hK K
          exact L_ret ⟨.inr rfl, _, rfl, e3 k (by omega) (by omega) hP (fun j h1 h2 => hno j h1 (by omega))⟩
        · refine L_false (by simp; exact hP) ?_
          refine L_reg [0, 1, 6] (fun K hK => ?_)
          simp [wrap_i64 (a := (k : Int) + 1) (by omega)]
          apply hK; clear hK K
          refine ⟨1000 - k, [.int .i64 (k + 1 : Nat)], by omega, by simp, k, rfl, by omega, fun j h1 h2 => ?_, rfl, hE.trans E2⟩
          by_cases e : j = k
          · rw [e]; exact hP
          · exact hno j h1 (by omega)
      · refine L_reg [4, 5] (fun K hK => ?_)
        simp
        apply hK; clear hK K
        exact L_ret ⟨.inr rfl, _, rfl, c2 (fun j h1 h2 => hno j h1 (by omega))⟩
    · have h2' : ¬ (0 ≤ x ∧ x ≤ n - 1) := by omega
      refine L_reg [0, 1, 14] (fun K hK => ?_)
      simp [okFn_low, w1]
      refine in_ac _ _ _ _ _ ?_
      simp [decide_eq_false h2']
      apply hK; clear hK K
      refine L_true (by simp) ?_
      refine L_reg [4, 5] (fun K hK => ?_)
      simp
      apply hK; clear hK K
      exact L_ret ⟨.inr rfl, _, rfl, a2 ⟨h1, h2⟩⟩
  · refine L_reg [0, 1, 9] (fun K hK => ?_)
    simp [okFn_low]
    refine in_ac _ _ _ _ _ ?_
    simp [decide_eq_false h1]
    apply hK; clear hK K
    refine L_true (by simp) ?_
    refine L_reg [4, 5] (fun K hK => ?_)
    simp
    apply hK; clear hK K
    exact L_ret ⟨.inr rfl, _, rfl, a3 h1⟩
end Go.Proofs.Ytmlhekfkniibmaa

/- Some go first: the smallest count. -/
namespace Go.Proofs.Ytmlhekfkniibmaa
open Go Go.Proofs.Ytmlhekfkniibmaa.AX

def homI (n : Int) (l : List Int) : Nat → Nat → Int
  | 0, _ => 0
  | m + 1, i => if 0 ≤ g l i ∧ g l i < n then (if 0 < i ∧ g l i ≤ g l (i - 1) then 7 else homI n l m (i + 1)) else 2
def homeE (n : Int) (l : List Int) : Int := if 1 ≤ n ∧ n ≤ 20 then homI n l l.length 0 else 1
theorem homI_zero {n : Int} {l : List Int} : ∀ {m i : Nat}, homI n l m i = 0 → ∀ j, i ≤ j → j < i + m → (0 ≤ g l j ∧ g l j < n) ∧ (0 < j → g l (j - 1) < g l j)
  | 0, i, _, j, h1, h2 => by omega
  | m + 1, i, h, j, h1, h2 => by
    simp only [homI] at h
    split at h
    · rename_i h3
      split at h
      · cases h
      · rename_i h4
        rcases Nat.lt_or_ge i j with e | e
        · exact homI_zero h j (by omega) (by omega)
        · have : j = i := by omega
          subst this
          exact ⟨h3, fun h5 => by omega⟩
    · cases h
theorem homeE_zero {n : Int} {l : List Int} (h : homeE n l = 0) : (1 ≤ n ∧ n ≤ 20) ∧ (∀ x ∈ l, 0 ≤ x ∧ x < n) ∧ l.Pairwise (· < ·) ∧ (l.length : Int) ≤ n := by
  unfold homeE at h
  split at h
  · rename_i h1
    have h2 := homI_zero h
    have h3 : ∀ d i : Nat, i + d < l.length → g l i + d ≤ g l (i + d) := by
      intro d
      induction d with
      | zero => intro i hi; simp
      | succ d ih =>
        intro i hi
        have h4 := ih i (by omega)
        have h5 := (h2 (i + (d + 1)) (by omega) (by omega)).2 (by omega)
        rw [show i + (d + 1) - 1 = i + d by omega] at h5
        omega
    refine ⟨h1, fun x hx => ?_, ?_, ?_⟩
    · obtain ⟨i, hi, rfl⟩ := List.mem_iff_getElem.1 hx
      have := (h2 i (by omega) (by omega)).1
      rwa [g_lt hi] at this
    · rw [List.pairwise_iff_getElem]
      intro i j hi hj hij
      have := h3 (j - i) i (by omega)
      rw [show i + (j - i) = j by omega, g_lt hi, g_lt hj] at this
      omega
    · rcases Nat.eq_zero_or_pos l.length with e | e
      · omega
      · have h6 := h3 (l.length - 1) 0 (by omega)
        have h7 := (h2 (l.length - 1) (by omega) (by omega)).1
        have h8 := (h2 0 (by omega) (by omega)).1
        rw [Nat.zero_add] at h6
        omega
  · cases h
set_option maxHeartbeats 1000000 in
theorem checkHome_ac (n : Int) (v : AV) (l : List Int) (H : AH) (Q : AV → AH → Prop) (hv : Ls H v l) (hlen : l.length ≤ 1000000) (h : Q (.int .i64 (homeE n l)) H) : AC Try.prog 65 [.int .i64 n, v] H Q := by
  obtain ⟨r, off, ver, sz, full, rfl, hld⟩ := id hv
  refine L_body 33 Try.func65 rfl rfl ?_
  refine L_reg [0, 1] (fun K hK => ?_)
  simp
  apply hK; clear hK K
  unfold homeE at h
  by_cases h1 : 1 ≤ n ∧ n ≤ 20
  · rw [if_pos h1] at h
    refine L_reg [0, 1, 9] (fun K hK => ?_)
    simp [okFn_low]
    refine isBench_ac _ _ _ ?_
    simp [decide_eq_true h1]
    apply hK; clear hK K
    refine L_false (by simp) ?_
    refine L_reg [0, 1, 10, 11, 12] (fun K hK => ?_)
    simp
    apply hK; clear hK K
    refine L_block (L_loopV [12] (fun m vs H' => ∃ i : Nat, m = l.length - i ∧ i ≤ l.length ∧ homI n l (l.length - i) i = homI n l l.length 0 ∧ vs = [.int .i64 i] ∧ H = H') _ [.int .i64 0] rfl ⟨0, rfl, by omega, rfl, rfl, rfl⟩ ?_)
    rintro m _ _ ⟨i, rfl, hi, hc, rfl, rfl⟩
    refine L_reg [0, 1, 10, 11, 12, 13] (fun K hK => ?_)
    simp
    apply hK; clear hK K
    refine L_dec (i < l.length) (by simp) (fun hlt => ?_) (fun hge => L_exit ?_)
    · refine L_block ?_
      obtain ⟨r', rfl, rfl, hx⟩ := hld i hlt
      rw [← g_lt hlt] at hx
      obtain ⟨m, hm⟩ : ∃ m, l.length - i = m + 1 := ⟨l.length - i - 1, by omega⟩
      rw [hm] at hc
      simp only [homI] at hc
      refine L_reg [0, 1, 5, 6, 10, 11, 12] (fun K hK => ?_)
      simp [hx, hlt]
      apply hK; clear hK K
      by_cases h2 : 0 ≤ g l i ∧ g l i < n
      · rw [if_pos h2] at hc
        refine L_reg [0, 1, 5, 6, 10, 11, 12, 20] (fun K hK => ?_)
        simp [okFn_low]
        refine isRoller_ac _ _ _ _ ?_
        simp [decide_eq_true h2]
        apply hK; clear hK K
        refine L_false (by simp) ?_
        by_cases h0 : 0 < i
        · obtain ⟨j, rfl⟩ : ∃ j, i = j + 1 := ⟨i - 1, by omega⟩
          obtain ⟨r2, e2, -, hy⟩ := hld j (by omega)
          obtain rfl := Option.some.inj e2
          rw [← g_lt (by omega)] at hy
          have hji : (((j + 1 : Nat) : Int)) - 1 = (j : Int) := by omega
          have hj0 : 0 < ((j + 1 : Nat) : Int) := by omega
          have hjl : j < l.length := by omega
          rw [Nat.add_sub_cancel] at hc
          have hwj : IntKind.i64.wrap (j : Int) = (j : Int) := wrap_i64 (by omega)
          have hpos : (0 : Int) < (j : Int) + 1 := by omega
          refine L_reg [0, 1, 10, 11, 12, 31] (fun K hK => ?_)
          simp [pickV, hpos, hwj, hjl, hy]
          apply hK; clear hK K
          by_cases h3 : g l (j + 1) ≤ g l j
          · rw [if_pos ⟨h0, h3⟩] at hc
            refine L_true (by simp [h3]) ?_
            rw [← hc] at h
            refine L_reg [4] (fun K hK => ?_)
            simp
            apply hK; clear hK K
            exact L_ret ⟨.inr rfl, _, rfl, h⟩
          · rw [if_neg (fun e => h3 e.2)] at hc
            refine L_false (by simp; omega) ?_
            refine L_reg [0, 1, 10, 11, 12] (fun K hK => ?_)
            simp [wrap_i64 (a := (j : Int) + 1 + 1) (by omega)]
            apply hK; clear hK K
            exact ⟨l.length - (j + 1 + 1), [.int .i64 (j + 1 + 1 : Nat)], by omega, by simp, j + 1 + 1, rfl, by omega, by rw [show l.length - (j + 1 + 1) = m by omega]; exact hc, rfl, rfl⟩
        · have hi0 : i = 0 := by omega
          subst hi0
          rw [if_neg (fun e => h0 e.1)] at hc
          refine L_reg [0, 1, 10, 11, 12, 31] (fun K hK => ?_)
          simp [pickV]
          apply hK; clear hK K
          refine L_false (by simp) ?_
          refine L_reg [0, 1, 10, 11, 12] (fun K hK => ?_)
          simp [wrap_i64 (a := (1 : Int)) (by omega)]
          apply hK; clear hK K
          exact ⟨l.length - 1, [.int .i64 (1 : Nat)], by omega, by simp, 1, rfl, by omega, by rw [show l.length - 1 = m by omega]; exact hc, rfl, rfl⟩
      · rw [if_neg h2] at hc
        refine L_reg [0, 1, 5, 6, 10, 11, 12, 20] (fun K hK => ?_)
        simp [okFn_low]
        refine isRoller_ac _ _ _ _ ?_
        simp [decide_eq_false h2]
        apply hK; clear hK K
        refine L_true (by simp) ?_
        rw [← hc] at h
        refine L_reg [4] (fun K hK => ?_)
        simp
        apply hK; clear hK K
        exact L_ret ⟨.inr rfl, _, rfl, h⟩
    · have hi' : l.length - i = 0 := by omega
      rw [hi'] at hc
      simp only [homI] at hc
      rw [← hc] at h
      refine L_reg [4] (fun K hK => ?_)
      simp
      apply hK; clear hK K
      exact L_ret ⟨.inr rfl, _, rfl, h⟩
  · rw [if_neg h1] at h
    refine L_reg [0, 1, 9] (fun K hK => ?_)
    simp [okFn_low]
    refine isBench_ac _ _ _ ?_
    simp [decide_eq_false h1]
    apply hK; clear hK K
    refine L_true (by simp) ?_
    refine L_reg [4] (fun K hK => ?_)
    simp
    apply hK; clear hK K
    exact L_ret ⟨.inr rfl, _, rfl, h⟩
/-- The first ones of the order are all in a list. -/
def FirstIs (n : Nat) (l : List Int) (k : Nat) : Prop := ∀ x ∈ (orderS n k).take l.length, x ∈ l
instance (n : Nat) (l : List Int) : DecidablePred (FirstIs n l) := fun k => by unfold FirstIs; infer_instance
theorem first_iff {n k : Nat} {l m : List Int} (hl : l.Pairwise (· < ·)) (hlen : l.length ≤ n) (hm : m.Perm ((orderS n k).take l.length)) (hs : Ord.Srt (fun x => x) 0 m.length m) : m = l ↔ FirstIs n l k := by
  have hnd : (orderS n k).Nodup := (orderS_perm n k).nodup_iff.2 (allS_nodup n)
  have hnt : ((orderS n k).take l.length).Nodup := List.Pairwise.sublist (List.take_sublist _ _) hnd
  have hmd := hm.nodup_iff.2 hnt
  constructor
  · intro e x hx
    rw [← e]; exact hm.mem_iff.2 hx
  · intro hF
    have hp : ((orderS n k).take l.length).Perm l := perm_of_sub hnt hF (by simp [orderS_len]; omega)
    have hml := hm.trans hp
    refine sorted_ext ?_ hl (fun z => hml.mem_iff)
    rw [List.pairwise_iff_getElem]
    intro i j hi hj hij
    have h1 := hs i j (by omega) hij hj
    have h2 := (List.pairwise_iff_getElem.1 hmd) i j hi hj hij
    simp only [g_lt hi, g_lt hj] at h1
    omega
set_option maxHeartbeats 1000000 in
theorem goFirst_ac (n k : Nat) (v : AV) (l : List Int) (H : AH) (Q : AV → AH → Prop) (h0 : 1 ≤ n) (h1 : n ≤ 20) (h3 : 1 ≤ k) (h4 : k ≤ 1000000) (hv : Ls H v l) (hl : l.Pairwise (· < ·)) (hlen : l.length ≤ n) (h : ∀ H', Ext H H' → Q (.bool (decide (FirstIs n l k))) H') : AC Try.prog 67 [.int .i64 n, .int .i64 k, v] H Q := by
  obtain ⟨r0, off0, ver0, sz0, full0, hv0, -⟩ := id hv
  refine L_body 21 Try.func67 rfl rfl ?_
  have hol := orderS_len n k
  refine L_reg [0, 1, 2] (fun K hK => ?_)
  simp
  apply hK; clear hK K
  refine L_reg [2, 7] (fun K hK => ?_)
  simp [okFn_low]
  refine order_ac n k (by omega) h3 (by omega) _ _ (fun w H1 o1 E1 => ?_)
  have hv1 := hv.ext E1
  rcases o1 with ⟨e, -⟩ | ⟨r, ver, st, hr, rfl, hrow⟩
  · have := congrArg List.length e; simp [hol] at this; omega
  have s1 := sliceS22 (full := false) (r := r) (off := 0) (len := n) (ver := ver) hlen
  simp [hv0, hol, s1]
  apply hK; clear hK K
  have hrl : r < H1.length := (List.getElem?_eq_some_iff.1 hrow).1
  have hrT : Ord.Rw r ver H1 ((orderS n k).take l.length) := ⟨st, ((orderS n k).drop l.length).map (.int .i64), by rw [← List.map_append, List.take_append_drop]; exact hrow⟩
  refine L_reg [2, 7] (fun K hK => ?_)
  simp [okFn_low]
  refine Sort_ac (sb := true) r ver _ l.length (by simp [hol]; omega) _ _ hrT hrl (by omega) (fun H2 m m1 m2 m3 m4 => ?_)
  simp
  apply hK; clear hK K
  have hE2 : Ext H H2 := m4.new E1 hr
  have hml : m.length = l.length := by rw [m1.length_eq]; simp [hol]; omega
  have hv2 : Ls H2 (.slice r0 off0 l.length ver0 sz0 full0) l := by rw [← hv0]; exact hv.ext hE2
  rw [← hml] at m2
  have hiff := first_iff hl hlen m1 m2
  have hd : decide (m = l) = decide (FirstIs n l k) := decide_eq_decide.2 hiff
  refine L_reg [6] (fun K hK => ?_)
  simp [okFn_low]
  refine Equal_ac true r ver 0 l.length m l _ _ _ (fun i hi => by rw [Nat.zero_add]; exact m3.ld (by omega)) hml (by omega) hv2 ?_
  simp
  apply hK; clear hK K
  exact L_ret ⟨.inr rfl, _, rfl, by rw [hd]; exact h _ hE2⟩
theorem goFirst_q (n k : Nat) (v : AV) (l : List Int) (H : AH) (Q : AV → AH → Prop) (h0 : 1 ≤ n) (h1 : n ≤ 20) (h3 : 1 ≤ k) (h4 : k ≤ 1000000) (hv : Ls H v l) (hl : l.Pairwise (· < ·)) (hlen : l.length ≤ n) (h : Q (.bool (decide (FirstIs n l k))) H) : AC Try.prog 67 [.int .i64 n, .int .i64 k, v] H Q :=
  AC.quiet (belB_bool _ _ _) (fun Q h => goFirst_ac n k v l H Q h0 h1 h3 h4 hv hl hlen h) Q h
theorem fitsF_ac (n : Nat) (v : AV) (l : List Int) (p q s t : Nat) (h0 : 1 ≤ n) (h1 : n ≤ 20) (hl : l.Pairwise (· < ·)) (hlen : l.length ≤ n) (H : AH) (hv : Ls H v l) (hp : H[p]? = some (.row [.int .i64 n] 0 s false)) (hq : H[q]? = some (.row [v] 0 t false)) : FitsC 66 [.ptr p 0 0, .ptr q 0 0] (FirstIs n l) H := by
  refine ⟨okFn_low (by omega) (by omega), fun k H1 k1 k2 hE Q hQ => ?_⟩
  obtain ⟨r0, off0, ver0, sz0, full0, rfl, -⟩ := id hv
  have l1 : ld H1 p 0 0 = some (.int .i64 n) := by rw [ld_row (hE.row hp)]; rfl
  have l2 : ld H1 q 0 0 = some (.slice r0 off0 l.length ver0 sz0 full0) := by rw [ld_row (hE.row hq)]; rfl
  refine L_body 9 Try.func66 rfl rfl ?_
  refine L_reg [0, 1, 2] (fun K hK => ?_)
  simp
  apply hK; clear hK K
  refine L_reg [4] (fun K hK => ?_)
  simp [okFn_low, l1, l2]
  refine goFirst_q n k _ l _ _ h0 h1 k1 (by omega) (hv.ext hE) hl hlen ?_
  simp
  apply hK; clear hK K
  exact L_ret ⟨.inr rfl, _, rfl, hQ _ (.refl _)⟩
/-- What First is asked. -/
def firstQ (n : Int) (l : List Int) (H : AH) (Q : AV → AH → Prop) : Prop :=
  (homeE n l = 0 → minQ (FirstIs n.toNat l) Q H) ∧ (homeE n l ≠ 0 → Q (.tuple [.int .i64 0, .int .i64 (homeE n l)]) H)
theorem First_ac (n : Int) (v : AV) (l : List Int) (H : AH) (Q : AV → AH → Prop) (hv : Ls H v l) (hlen : l.length ≤ 1000000) (h : ∀ H', Ext H H' → firstQ n l H' Q) : AC Try.prog 35 [.int .i64 n, v] H Q := by
  obtain ⟨r0, off0, ver0, sz0, full0, rfl, -⟩ := id hv
  refine L_body 17 Try.func35 rfl rfl ?_
  refine L_reg [2, 3] (fun K hK => ?_)
  simp [AV.isU, acells]
  apply hK; clear hK K
  have hE0 : Ext H (H ++ [AObj.row [.int .i64 n] 0 0 false, AObj.row [.slice r0 off0 l.length ver0 sz0 full0] 0 0 false]) := .push _ _
  have hp : (H ++ [AObj.row [.int .i64 n] 0 0 false, AObj.row [.slice r0 off0 l.length ver0 sz0 full0] 0 0 false])[H.length]? = some (.row [.int .i64 n] 0 0 false) := by simp
  have hq : (H ++ [AObj.row [.int .i64 n] 0 0 false, AObj.row [.slice r0 off0 l.length ver0 sz0 full0] 0 0 false])[H.length + 1]? = some (.row [.slice r0 off0 l.length ver0 sz0 full0] 0 0 false) := by simp
  generalize H ++ [AObj.row [.int .i64 n] 0 0 false, AObj.row [.slice r0 off0 l.length ver0 sz0 full0] 0 0 false] = H1 at hE0 hp hq ⊢
  have l1 : ld H1 H.length 0 0 = some (.int .i64 n) := by rw [ld_row hp]; rfl
  have l2 : ld H1 (H.length + 1) 0 0 = some (.slice r0 off0 l.length ver0 sz0 full0) := by rw [ld_row hq]; rfl
  have hv1 := hv.ext hE0
  refine L_reg [2, 3, 6] (fun K hK => ?_)
  simp [okFn_low, l1, l2]
  refine checkHome_ac n _ l _ _ hv1 hlen ?_
  simp
  apply hK; clear hK K
  refine L_reg [2, 3, 6, 11] (fun K hK => ?_)
  simp
  apply hK; clear hK K
  by_cases h1 : homeE n l = 0
  · refine L_false (by simp [h1]) ?_
    obtain ⟨b1, -, b3, b4⟩ := homeE_zero h1
    obtain ⟨n, rfl⟩ : ∃ y : Nat, n = y := ⟨n.toNat, by omega⟩
    refine L_reg [4, 5] (fun K hK => ?_)
    simp [okFn_low]
    refine smallest_ac 66 _ (FirstIs n l) _ _ (fitsF_ac n _ l _ _ 0 0 (by omega) (by omega) b3 (by omega) H1 hv1 hp hq) (fun H2 E2 => ?_)
    obtain ⟨b1, -⟩ := h H2 (hE0.trans E2)
    obtain ⟨c1, c2⟩ := b1 h1
    simp only [Int.toNat_natCast] at c1 c2
    refine ⟨fun k k1 k2 k3 k4 => ?_, fun hno => ?_⟩
    · simp
      apply hK; clear hK K
      exact L_ret ⟨.inr rfl, _, rfl, c1 k k1 k2 k3 k4⟩
    · simp
      apply hK; clear hK K
      exact L_ret ⟨.inr rfl, _, rfl, c2 hno⟩
  · refine L_true (by simp [h1]) ?_
    refine L_reg [4, 5] (fun K hK => ?_)
    simp
    apply hK; clear hK K
    exact L_ret ⟨.inr rfl, _, rfl, (h H1 hE0).2 h1⟩
end Go.Proofs.Ytmlhekfkniibmaa

/- The reference's First; BenchTried, walked. -/
namespace Go.Proofs.Ytmlhekfkniibmaa
open Go Go.Proofs.Ytmlhekfkniibmaa.AX
set_option maxRecDepth 100000 in
set_option maxHeartbeats 2000000 in
theorem FirstR_ac (n : Int) (v : AV) (l : List Int) (H : AH) (Q : AV → AH → Prop) (hv : Ls H v l) (hlen : l.length ≤ 1000000) (h : ∀ H', Ext H H' → firstQ n l H' Q) : AC Try.prog 36 [.int .i64 n, v] H Q := by
  obtain ⟨r, off, ver, sz, full, rfl, hld⟩ := id hv
  refine L_body 67 Try.func36 rfl rfl ?_
  refine L_reg [0, 1] (fun K hK => ?_)
  simp
  apply hK; clear hK K
  have h0 := h H (.refl _)
  unfold firstQ homeE at h0
  by_cases h1 : 1 ≤ n ∧ n ≤ 20
  · rw [if_pos h1] at h0
    refine L_reg [0, 1, 13] (fun K hK => ?_)
    simp [okFn_low]
    refine in_ac _ _ _ _ _ ?_
    simp [decide_eq_true h1]
    apply hK; clear hK K
    refine L_false (by simp) ?_
    have w1 : IntKind.i64.wrap (n - 1) = n - 1 := wrap_i64 (by omega)
    refine L_reg [0, 1, 6] (fun K hK => ?_)
    simp
    apply hK; clear hK K
    refine L_block (L_loopV [6] (fun m vs H' => ∃ i : Nat, m = l.length - i ∧ i ≤ l.length ∧ homI n l (l.length - i) i = homI n l l.length 0 ∧ vs = [.int .i64 i] ∧ H = H') _ [.int .i64 0] rfl ⟨0, rfl, by omega, rfl, rfl, rfl⟩ ?_)
    rintro m _ _ ⟨i, rfl, hi, hc, rfl, rfl⟩
    refine L_reg [0, 1, 6, 17] (fun K hK => ?_)
    simp
    apply hK; clear hK K
    refine L_dec (i < l.length) (by simp) (fun hlt => ?_) (fun hge => L_exit ?_)
    · refine L_block ?_
      obtain ⟨r', rfl, rfl, hx⟩ := hld i hlt
      rw [← g_lt hlt] at hx
      obtain ⟨m, hm⟩ : ∃ m, l.length - i = m + 1 := ⟨l.length - i - 1, by omega⟩
      rw [hm] at hc
      simp only [homI] at hc
      by_cases h2 : 0 ≤ g l i ∧ g l i < n
      · rw [if_pos h2] at hc
        have h2' : 0 ≤ g l i ∧ g l i ≤ n - 1 := by omega
        refine L_reg [0, 1, 6, 27] (fun K hK => ?_)
        simp [okFn_low, hx, hlt, w1]
        refine in_ac _ _ _ _ _ ?_
        simp [decide_eq_true h2']
        apply hK; clear hK K
        refine L_false (by simp) ?_
        by_cases h3 : 0 < i
        · obtain ⟨j, rfl⟩ : ∃ j, i = j + 1 := ⟨i - 1, by omega⟩
          obtain ⟨r2, e2, -, hy⟩ := hld j (by omega)
          obtain rfl := Option.some.inj e2
          rw [← g_lt (by omega)] at hy
          have hjl : j < l.length := by omega
          rw [Nat.add_sub_cancel] at hc
          have hwj : IntKind.i64.wrap (j : Int) = (j : Int) := wrap_i64 (by omega)
          have hpos : (0 : Int) < (j : Int) + 1 := by omega
          have hj1 : (j : Int) + 1 < (l.length : Int) := by omega
          have hj0 : (0 : Int) ≤ (j : Int) + 1 := by omega
          have hjn : ((j : Int) + 1).toNat = j + 1 := by omega
          refine L_regQ mixed [0, 1, 6, 41] (by kernel_rfl) (fun K hK => ?_)
          simp [pickV, hpos, hwj, hjl, hy, hx, hj1, hj0, hjn]
          apply hK; clear hK K
          by_cases h4 : g l (j + 1) ≤ g l j
          · rw [if_pos ⟨h3, h4⟩] at hc
            refine L_true (by simp [h4]) ?_
            rw [← hc] at h0
            refine L_reg [4, 5] (fun K hK => ?_)
            simp
            apply hK; clear hK K
            exact L_ret ⟨.inr rfl, _, rfl, h0.2 (by decide)⟩
          · rw [if_neg (fun e => h4 e.2)] at hc
            refine L_false (by simp; omega) ?_
            refine L_reg [0, 1, 6] (fun K hK => ?_)
            simp [wrap_i64 (a := (j : Int) + 1 + 1) (by omega)]
            apply hK; clear hK K
            exact ⟨l.length - (j + 1 + 1), [.int .i64 (j + 1 + 1 : Nat)], by omega, by simp, j + 1 + 1, rfl, by omega, by rw [show l.length - (j + 1 + 1) = m by omega]; exact hc, rfl, rfl⟩
        · have hi0 : i = 0 := by omega
          subst hi0
          rw [if_neg (fun e => h3 e.1)] at hc
          refine L_regQ mixed [0, 1, 6, 41] (by kernel_rfl) (fun K hK => ?_)
          simp [pickV]
          apply hK; clear hK K
          refine L_false (by simp) ?_
          refine L_reg [0, 1, 6] (fun K hK => ?_)
          simp [wrap_i64 (a := (1 : Int)) (by omega)]
          apply hK; clear hK K
          exact ⟨l.length - 1, [.int .i64 (1 : Nat)], by omega, by simp, 1, rfl, by omega, by rw [show l.length - 1 = m by omega]; exact hc, rfl, rfl⟩
      · rw [if_neg h2] at hc
        have h2' : ¬ (0 ≤ g l i ∧ g l i ≤ n - 1) := by omega
        refine L_reg [0, 1, 6, 27] (fun K hK => ?_)
        simp [okFn_low, hx, hlt, w1]
        refine in_ac _ _ _ _ _ ?_
        simp [decide_eq_false h2']
        apply hK; clear hK K
        refine L_true (by simp) ?_
        rw [← hc] at h0
        refine L_reg [4, 5] (fun K hK => ?_)
        simp
        apply hK; clear hK K
        exact L_ret ⟨.inr rfl, _, rfl, h0.2 (by decide)⟩
    · have hi' : l.length - i = 0 := by omega
      rw [hi'] at hc
      simp only [homI] at hc
      have hz : homeE n l = 0 := by unfold homeE; rw [if_pos h1, ← hc]
      clear hc h0 hi hi' hge
      obtain ⟨-, -, b3, b4⟩ := homeE_zero hz
      obtain ⟨n, rfl⟩ : ∃ y : Nat, n = y := ⟨n.toNat, by omega⟩
      have hb4 : l.length ≤ n := by omega
      refine L_reg [0, 1, 7] (fun K hK => ?_)
      simp
      apply hK; clear hK K
      refine L_block (L_loopV [7] (fun m vs H' => ∃ i : Nat, m = 1000 - i ∧ i ≤ 1000 ∧ (∀ j, 1 ≤ j → j ≤ i → ¬ FirstIs n l j) ∧ vs = [.int .i64 (i + 1 : Nat)] ∧ Ext H H') _ [.int .i64 1] rfl ⟨0, rfl, by omega, fun j h1 h2 => by omega, rfl, .refl _⟩ ?_)
      rintro m _ H1 ⟨i, rfl, hi, hno, rfl, hE⟩
      obtain ⟨k, hk⟩ : ∃ k : Nat, k = i + 1 := ⟨_, rfl⟩
      rw [← hk]
      refine L_reg [0, 1, 7, 43] (fun K hK => ?_)
      simp
      apply hK; clear hK K
      refine L_dec (k ≤ 1000) (by simp; omega) (fun hlt => ?_) (fun hge => L_exit ?_)
      · refine L_block ?_
        have hol := orderS_len n k
        refine L_reg [0, 1, 7, 8] (fun K hK => ?_)
        simp [okFn_low]
        refine orderR_ac n k (by omega) (by omega) (by omega) _ _ (fun w H2 o2 E2 => ?_)
        simp
        apply hK; clear hK K
        have hE2 := hE.trans E2
        have hv2 := hv.ext hE2
        obtain ⟨d1, -⟩ := h H2 hE2
        obtain ⟨e3, -⟩ := d1 hz
        simp only [Int.toNat_natCast] at e3
        obtain ⟨rw', ofw, vew, szw, fuw, rfl, hld2⟩ := id o2.own.ls
        rw [hol]
        refine L_reg [0, 1, 7, 8, 9] (fun K hK => ?_)
        simp
        apply hK; clear hK K
        refine L_reg [0, 1, 7, 8, 9, 10] (fun K hK => ?_)
        simp
        apply hK; clear hK K
        refine L_block (L_loopV [9, 10] (fun m vs H' => ∃ (i : Nat) (b : Bool), m = l.length - i ∧ i ≤ l.length ∧ (b = true ↔ ∀ j, j < i → g (orderS n k) j ∈ l) ∧ vs = [.bool b, .int .i64 i] ∧ H2 = H') _ [.bool true, .int .i64 0] rfl ⟨0, true, rfl, by omega, ⟨fun _ j hj => by omega, fun _ => rfl⟩, rfl, rfl⟩ ?_)
        rintro m _ _ ⟨i, b, rfl, hi, hb, rfl, rfl⟩
        refine L_reg [0, 1, 7, 8, 9, 10, 52] (fun K hK => ?_)
        simp
        apply hK; clear hK K
        refine L_dec (i < l.length) (by simp) (fun hlt => ?_) (fun hge => L_exit ?_)
        · refine L_block ?_
          obtain ⟨r3, rfl, rfl, hx⟩ := hld2 i (by omega)
          rw [← g_lt (by omega)] at hx
          have hin : i < n := by omega
          cases b with
          | false =>
            refine L_reg [0, 1, 7, 8, 9, 10] (fun K hK => ?_)
            simp [pickV]
            apply hK; clear hK K
            refine L_reg [0, 1, 7, 8, 9, 10] (fun K hK => ?_)
            simp [wrap_i64 (a := (i : Int) + 1) (by omega)]
            apply hK; clear hK K
            exact ⟨l.length - (i + 1), [.bool false, .int .i64 (i + 1 : Nat)], by omega, by simp, i + 1, false, rfl, by omega, ⟨fun e => (by cases e), fun e => hb.2 (fun j hj => e j (by omega))⟩, rfl, rfl⟩
          | true =>
            refine L_reg [0, 1, 7, 8, 9, 10] (fun K hK => ?_)
            simp [okFn_low, hx, hin]
            refine place_ac _ l _ _ _ hlen hv2 ?_
            simp [pickV]
            apply hK; clear hK K
            refine L_reg [0, 1, 7, 8, 9, 10] (fun K hK => ?_)
            simp [wrap_i64 (a := (i : Int) + 1) (by omega)]
            apply hK; clear hK K
            refine ⟨l.length - (i + 1), [.bool (decide (0 ≤ idx (g (orderS n k) i) l)), .int .i64 (i + 1 : Nat)], by omega, by simp, i + 1, _, rfl, by omega, ?_, rfl, rfl⟩
            rw [decide_eq_true_iff, idx_iff]
            constructor
            · intro hm j hj
              by_cases e : j = i
              · rw [e]; exact hm
              · exact hb.1 rfl j (by omega)
            · intro hm; exact hm i (by omega)
        · have hi' : i = l.length := by omega
          subst hi'
          have hF : b = true ↔ FirstIs n l k := by
            rw [hb]
            constructor
            · intro hm x hx
              obtain ⟨j, hj, rfl⟩ := List.mem_iff_getElem.1 hx
              simp [hol] at hj
              have := hm j (by omega)
              rw [g_lt (by omega)] at this
              simpa using this
            · intro hm j hj
              refine hm _ ?_
              rw [g_lt (by omega)]
              exact List.mem_iff_getElem.2 ⟨j, by simp [hol]; omega, by simp⟩
          refine L_reg [0, 1, 7, 65] (fun K hK => ?_)
          simp
          apply hK; clear hK K
          cases b with
          | true =>
            refine L_true (by simp) ?_
            refine L_reg [4, 5] (fun K hK => ?_)
            simp
            apply hK; clear hK K
            exact L_ret ⟨.inr rfl, _, rfl, e3 k (by omega) (by omega) (hF.1 rfl) (fun j h1 h2 => hno j h1 (by omega))⟩
          | false =>
            refine L_false (by simp) ?_
            refine L_reg [0, 1, 7] (fun K hK => ?_)
            simp [wrap_i64 (a := (k : Int) + 1) (by omega)]
            apply hK; clear hK K
            refine ⟨1000 - k, [.int .i64 (k + 1 : Nat)], by omega, by simp, k, rfl, by omega, fun j h1 h2 => ?_, rfl, hE2⟩
            by_cases e : j = k
            · rw [e]; intro hP; have := hF.2 hP; cases this
            · exact hno j h1 (by omega)
      · obtain ⟨d1, -⟩ := h H1 hE
        obtain ⟨-, e4⟩ := d1 hz
        simp only [Int.toNat_natCast] at e4
        refine L_reg [4, 5] (fun K hK => ?_)
        simp
        apply hK; clear hK K
        exact L_ret ⟨.inr rfl, _, rfl, e4 (fun j h1 h2 => hno j h1 (by omega))⟩
  · rw [if_neg h1] at h0
    refine L_reg [0, 1, 13] (fun K hK => ?_)
    simp [okFn_low]
    refine in_ac _ _ _ _ _ ?_
    simp [decide_eq_false h1]
    apply hK; clear hK K
    refine L_true (by simp) ?_
    refine L_reg [4, 5] (fun K hK => ?_)
    simp
    apply hK; clear hK K
    exact L_ret ⟨.inr rfl, _, rfl, h0.2 (by decide)⟩
/-- What a search finds. -/
noncomputable def minV (P : Nat → Prop) : Int × Int :=
  open Classical in
  if h : ∃ k, (1 ≤ k ∧ k ≤ 1000 ∧ P k) ∧ ∀ j, 1 ≤ j → j < k → ¬ P j then ((Classical.choose h : Nat), 0) else (0, 12)
theorem minQ_mk {P : Nat → Prop} {Q : AV → AH → Prop} {H : AH} (h : Q (.tuple [.int .i64 (minV P).1, .int .i64 (minV P).2]) H) : minQ P Q H := by
  unfold minV at h
  constructor
  · intro k k1 k2 k3 k4
    have hex : ∃ k, (1 ≤ k ∧ k ≤ 1000 ∧ P k) ∧ ∀ j, 1 ≤ j → j < k → ¬ P j := ⟨k, ⟨k1, k2, k3⟩, k4⟩
    rw [dif_pos hex] at h
    have hc := Classical.choose_spec hex
    have : Classical.choose hex = k := by
      generalize Classical.choose hex = m at hc
      rcases Nat.lt_trichotomy m k with e | e | e
      · exact absurd hc.1.2.2 (k4 m hc.1.1 e)
      · exact e
      · exact absurd k3 (hc.2 k k1 e)
    rw [this] at h
    exact h
  · intro hno
    rw [dif_neg (fun ⟨k, h1, h2⟩ => hno k h1.1 h1.2.1 h1.2.2)] at h
    exact h
noncomputable def smallV (n x : Int) : Int × Int := if 1 ≤ n ∧ n ≤ 20 then (if 0 ≤ x ∧ x < n then minV (LastIs n.toNat x) else (0, 2)) else (0, 1)
theorem smallQ_mk {n x : Int} {Q : AV → AH → Prop} {H : AH} (h : Q (.tuple [.int .i64 (smallV n x).1, .int .i64 (smallV n x).2]) H) : smallQ n x H Q := by
  unfold smallV at h
  refine ⟨fun h1 => ?_, fun h1 => ?_, fun h1 => ?_⟩
  · rw [if_pos h1.1, if_pos h1.2] at h; exact minQ_mk h
  · rw [if_pos h1.1, if_neg h1.2] at h; exact h
  · rw [if_neg h1] at h; exact h
noncomputable def firstV (n : Int) (l : List Int) : Int × Int := if homeE n l = 0 then minV (FirstIs n.toNat l) else (0, homeE n l)
theorem firstQ_mk {n : Int} {l : List Int} {Q : AV → AH → Prop} {H : AH} (h : Q (.tuple [.int .i64 (firstV n l).1, .int .i64 (firstV n l).2]) H) : firstQ n l H Q := by
  unfold firstV at h
  refine ⟨fun h1 => ?_, fun h1 => ?_⟩
  · rw [if_pos h1] at h; exact minQ_mk h
  · rw [if_neg h1] at h; exact h
set_option maxHeartbeats 1000000 in
theorem benchTried_ac (n x : Int) (v : AV) (l : List Int) (H : AH) (hv : Ls H v l) : AC Try.prog 6 [.int .i64 n, .int .i64 x, v] H fun u _ => u = .bool true := by
  obtain ⟨r, off, ver, sz, full, rfl, -⟩ := id hv
  refine L_body 64 Try.func6 rfl rfl ?_
  refine L_reg [0, 1, 2] (fun K hK => ?_)
  simp
  apply hK; clear hK K
  refine L_reg [0, 1, 2, 17] (fun K hK => ?_)
  simp
  apply hK; clear hK K
  refine L_dec (60 < (l.length : Int)) (by simp) (fun hgt => ?_) (fun hle => ?_)
  · refine L_reg [6] (fun K hK => ?_)
    simp [okFn_low]
    refine works_ac _ _ ?_
    simp
    apply hK; clear hK K
    exact L_ret ⟨.inr rfl, _, rfl, rfl⟩
  · have hlen : l.length ≤ 1000000 := by omega
    refine L_reg [0, 1, 2, 7, 8] (fun K hK => ?_)
    simp [okFn_low]
    refine Smallest_ac n x _ _ (fun H1 E1 => smallQ_mk ?_)
    simp
    apply hK; clear hK K
    refine L_reg [0, 2, 7, 8, 9, 10] (fun K hK => ?_)
    simp [okFn_low]
    refine SmallestR_ac n x _ _ (fun H2 E2 => smallQ_mk ?_)
    simp
    apply hK; clear hK K
    refine L_reg [0, 2, 7, 8, 9, 10, 11, 12] (fun K hK => ?_)
    simp [okFn_low]
    refine First_ac n _ l _ _ ((hv.ext E1).ext E2) hlen (fun H3 E3 => firstQ_mk ?_)
    simp
    apply hK; clear hK K
    refine L_reg [7, 8, 9, 10, 11, 12, 13, 14] (fun K hK => ?_)
    simp [okFn_low]
    refine FirstR_ac n _ l _ _ (((hv.ext E1).ext E2).ext E3) hlen (fun H4 E4 => firstQ_mk ?_)
    simp
    apply hK; clear hK K
    refine L_reg [6] (fun K hK => ?_)
    simp [okFn_low, pickV]
    refine works_ac _ _ ?_
    simp [pickV]
    apply hK; clear hK K
    exact L_ret ⟨.inr rfl, _, rfl, rfl⟩
end Go.Proofs.Ytmlhekfkniibmaa

/- One roller more; counts of 1 and 2. -/
namespace Go.Proofs.Ytmlhekfkniibmaa
open Go Go.Proofs.Ytmlhekfkniibmaa.AX

theorem g_map {f : Int → Int} {l : List Int} {i : Nat} (h : i < l.length) : g (l.map f) i = f (g l i) := by
  rw [g_lt (by simpa using h), g_lt h]; simp
theorem rot_map (f : Int → Int) (l : List Int) (a : Nat) : rot (l.map f) a = (rot l a).map f := by simp [rot, List.map_drop, List.map_take]
theorem ordS_map (k : Nat) (f : Int → Int) : ∀ (m : Nat) (l : List Int), l.length = m → ordS k m (l.map f) = (ordS k m l).map f
  | 0, _, _ => rfl
  | m + 1, l, h => by
    have hlt : (k - 1) % (m + 1) < l.length := by rw [h]; exact Nat.mod_lt _ (by omega)
    simp only [ordS, List.map_cons]
    rw [g_map hlt, rot_map, ordS_map k f m _ (by rw [rot_len hlt]; omega)]
theorem rot_all {n a : Nat} (ha : a ≤ n) : rot (allS (n + 1)) a = (allS n).map fun x => (x + (a + 1 : Nat)) % ((n + 1 : Nat) : Int) := by
  have hl : (rot (allS (n + 1)) a).length = n := by rw [rot_len (by rw [allS_len]; omega), allS_len]; rfl
  apply g_ext (by rw [hl]; simp [allS_len])
  intro i hi
  rw [hl] at hi
  rw [g_map (by rw [allS_len]; exact hi), g_all hi]
  unfold rot
  rw [g_app]
  simp only [List.length_drop, allS_len]
  split
  · rename_i h
    rw [g_drop, g_all (by omega), Int.emod_eq_of_lt (by omega) (by omega)]
    omega
  · rename_i h
    rw [g_take (by omega), g_all (by omega)]
    have e : (i : Int) + ((a + 1 : Nat) : Int) = ((i - (n + 1 - (a + 1)) : Nat) : Int) + ((n + 1 : Nat) : Int) := by omega
    rw [e, Int.add_emod_right, Int.emod_eq_of_lt (by omega) (by omega)]
theorem ord_last {k : Nat} : ∀ {n : Nat} {x : Int} {l : List Int}, 0 < n → g (x :: ordS k n l) n = g (ordS k n l) (n - 1) := by
  intro n x l hn
  obtain ⟨m, rfl⟩ : ∃ m, n = m + 1 := ⟨n - 1, by omega⟩
  simp [g]
theorem josephus {n k : Nat} (hn : 0 < n) (hk : 1 ≤ k) : g (orderS (n + 1) k) n = (g (orderS n k) (n - 1) + k) % ((n + 1 : Nat) : Int) := by
  unfold orderS
  have ha : (k - 1) % (n + 1) < n + 1 := Nat.mod_lt _ (by omega)
  simp only [ordS]
  rw [ord_last hn, rot_all (by omega), ordS_map k _ n _ (allS_len n), g_map (by rw [ordS_len]; omega)]
  have h1 := Nat.div_add_mod (k - 1) (n + 1)
  generalize (k - 1) % (n + 1) = a at *
  generalize (k - 1) / (n + 1) = q at *
  have e : (k : Int) = ((a + 1 : Nat) : Int) + ((n + 1 : Nat) : Int) * (q : Int) := by
    have h2 : (((n + 1) * q + a : Nat) : Int) = ((k - 1 : Nat) : Int) := by rw [h1]
    rw [Int.natCast_add, Int.natCast_mul] at h2
    omega
  rw [e, ← Int.add_assoc, Int.add_mul_emod_self_left]
theorem last_mem {n k : Nat} (hn : 0 < n) : 0 ≤ g (orderS n k) (n - 1) ∧ g (orderS n k) (n - 1) < n := by
  have h1 : g (orderS n k) (n - 1) ∈ orderS n k := by rw [g_lt (by rw [orderS_len]; omega)]; simp
  exact mem_allS.1 ((orderS_perm n k).mem_iff.1 h1)
theorem two_all : (List.range 19).all (fun i => decide (g (orderS (i + 1) 2) i = 2 * ((i + 1 : Nat) - (2 : Int) ^ (Ord.lenN (i + 1) - 1)))) = true := by decide +kernel
theorem last_two {n : Nat} (h1 : 1 ≤ n) (h2 : n ≤ 19) : g (orderS n 2) (n - 1) = 2 * ((n : Int) - 2 ^ (Ord.lenN n - 1)) := by
  have := List.all_eq_true.1 two_all (n - 1) (List.mem_range.2 (by omega))
  rw [decide_eq_true_iff, show n - 1 + 1 = n by omega] at this
  exact this
theorem one_all : (List.range 20).all (fun n => decide (orderS n 1 = allS n)) = true := by decide +kernel
theorem order_one {n : Nat} (h2 : n ≤ 19) : orderS n 1 = allS n := by
  have := List.all_eq_true.1 one_all n (List.mem_range.2 (by omega))
  exact of_decide_eq_true this
end Go.Proofs.Ytmlhekfkniibmaa

/- BenchGrown, walked. -/
namespace Go.Proofs.Ytmlhekfkniibmaa
open Go Go.Proofs.Ytmlhekfkniibmaa.AX
theorem okB_mk {n k : Nat} (h1 : 1 ≤ n) (h2 : n ≤ 20) (h3 : 1 ≤ k) (h4 : k ≤ 1000000000) : okB n k := ⟨by omega, by omega⟩
theorem LastN_ac (n k : Nat) (h1 : 1 ≤ n) (h2 : n ≤ 20) (h3 : 1 ≤ k) (h4 : k ≤ 1000000000) (H : AH) (Q : AV → AH → Prop) (h : ∀ H', Ext H H' → Q (.tuple [.int .i64 (g (orderS n k) (n - 1)), .int .i64 0]) H') : AC Try.prog 15 [.int .i64 n, .int .i64 k] H Q := by
  refine Last_ac n k H Q ?_
  have hk := okB_mk h1 h2 h3 h4
  rw [benchE_ok hk]
  unfold lastP
  rw [if_pos hk, Int.toNat_natCast, Int.toNat_natCast]
  exact h
theorem OrderN_ac (n k : Nat) (h1 : 1 ≤ n) (h2 : n ≤ 20) (h3 : 1 ≤ k) (h4 : k ≤ 1000000000) (H : AH) (Q : AV → AH → Prop) (h : ∀ v H', OwnF H.length H' v ((orderS n k).map (.int .i64)) → Ext H H' → Q (.tuple [v, .int .i64 0]) H') : AC Try.prog 13 [.int .i64 n, .int .i64 k] H Q := by
  refine Order_ac n k H Q ?_
  have hk := okB_mk h1 h2 h3 h4
  rw [benchE_ok hk]
  unfold orderP
  rw [if_pos hk, Int.toNat_natCast, Int.toNat_natCast]
  exact h
theorem shl_small {P : Program} {t : TypeId} {l : Bool} {k' : IntKind} {j : Nat} (hj : j ≤ 6) : binV P .shl t l (.int .i64 1) (.int k' (j : Int)) = some (.int .i64 ((2 : Int) ^ j)) := by
  rw [b_shl (Int.natCast_nonneg j)]
  have : j = 0 ∨ j = 1 ∨ j = 2 ∨ j = 3 ∨ j = 4 ∨ j = 5 ∨ j = 6 := by omega
  rcases this with rfl | rfl | rfl | rfl | rfl | rfl | rfl <;> rfl
theorem wrap_u32 {a : Int} (h : 0 ≤ a ∧ a ≤ 4294967295) : IntKind.u32.wrap a = a := by
  have e1 : (2 : Int) ^ 32 = 4294967296 := by decide
  unfold IntKind.wrap
  simp only [IntKind.bits, IntKind.signed, e1]
  have : a % 4294967296 = a := Int.emod_eq_of_lt (by omega) (by omega)
  simp [this]
set_option maxRecDepth 100000 in
set_option maxHeartbeats 4000000 in
theorem benchGrown_ac (a b : Nat) (ha : a < 256) (hb : b < 4294967296) (H : AH) : AC Try.prog 9 [.int .u8 a, .int .u32 b] H fun u _ => u = .bool true := by
  refine L_body 114 Try.func9 rfl rfl ?_
  refine L_reg [0, 1] (fun K hK => ?_)
  simp
  apply hK; clear hK K
  obtain ⟨n, hn⟩ : ∃ n : Nat, n = 1 + a % 19 := ⟨_, rfl⟩
  obtain ⟨k, hk⟩ : ∃ k : Nat, k = 1 + b % 1000000000 := ⟨_, rfl⟩
  have e1 : (1 : Int) + ((a : Int)).tmod 19 = (n : Int) := by rw [Int.tmod_eq_emod_of_nonneg (by omega)]; omega
  have e2 : (1 : Int) + ((b : Int)).tmod 1000000000 = (k : Int) := by rw [Int.tmod_eq_emod_of_nonneg (by omega)]; omega
  have hn1 : 1 ≤ n := by omega
  have hn2 : n ≤ 19 := by omega
  have hk1 : 1 ≤ k := by omega
  have hk2 : k ≤ 1000000000 := by omega
  have f1 : IntKind.i64.wrap ((a : Int).tmod 19) = (a : Int).tmod 19 := by rw [Int.tmod_eq_emod_of_nonneg (by omega)]; exact wrap_i64 (by omega)
  have f2 : IntKind.i64.wrap ((b : Int).tmod 1000000000) = (b : Int).tmod 1000000000 := by rw [Int.tmod_eq_emod_of_nonneg (by omega)]; exact wrap_i64 (by omega)
  have f3 : IntKind.u32.wrap ((b : Int).tmod 1000000000) = (b : Int).tmod 1000000000 := by rw [Int.tmod_eq_emod_of_nonneg (by omega)]; exact wrap_u32 (by omega)
  refine L_reg [5, 6] (fun K hK => ?_)
  simp [wrap_i64 (a := (a : Int)) (by omega), f2, e1, e2, wrap_i64 (a := (n : Int)) (by omega), wrap_i64 (a := (k : Int)) (by omega)]
  apply hK; clear hK K
  clear e1 e2 f1 f2 f3 hn hk ha hb
  have hj := josephus (n := n) (k := k) (by omega) hk1
  have hl := last_mem (n := n) (k := k) (by omega)
  have h2 := last_two hn1 hn2
  have ho := order_one hn2
  obtain ⟨m, hm⟩ : ∃ m : Nat, m = n + 1 := ⟨_, rfl⟩
  have hmi : (n : Int) + 1 = (m : Int) := by omega
  obtain ⟨x, hx⟩ : ∃ x : Nat, g (orderS n k) (n - 1) = x := ⟨(g (orderS n k) (n - 1)).toNat, by omega⟩
  have hL2 := LastN_ac m k (by omega) (by omega) hk1 hk2
  rw [← hm] at hj
  rw [show n = m - 1 by omega, show m - 1 - 1 = n - 1 by omega, show m - 1 = n by omega] at hj
  rw [show m - 1 = n by omega] at hL2
  rw [hj, hx] at hL2
  rw [hx] at hl
  have hL1 := LastN_ac n k hn1 (by omega) hk1 hk2
  rw [hx] at hL1
  have hL3 := LastN_ac n 2 hn1 (by omega) (by omega) (by omega)
  rw [h2] at hL3
  have hO := OrderN_ac n 1 hn1 (by omega) (by omega) (by omega)
  rw [ho] at hO
  have em := tmod_nat k m
  have em2 : ((x : Int) + ((k % m : Nat) : Int)).tmod (m : Int) = ((x : Int) + k) % (m : Int) := by
    rw [Int.tmod_eq_emod_of_nonneg (by omega), Int.natCast_emod, Int.add_emod_emod]
  have hkm := Nat.mod_lt k (show 0 < m by omega)
  obtain ⟨km, hkm2⟩ : ∃ km : Nat, km = k % m := ⟨_, rfl⟩
  rw [← hkm2] at em em2 hkm
  obtain ⟨y, hy⟩ : ∃ y : Int, y = ((x : Int) + k) % (m : Int) := ⟨_, rfl⟩
  have hy0 : 0 ≤ y ∧ y < m := by rw [hy]; exact ⟨Int.emod_nonneg _ (by omega), Int.emod_lt_of_pos _ (by omega)⟩
  rw [← hy] at em2 hL2
  have hLn : 1 ≤ Ord.lenN n ∧ Ord.lenN n ≤ 7 := by
    unfold Ord.lenN
    repeat' split
    all_goals omega
  obtain ⟨j, hj2⟩ : ∃ j, Ord.lenN n = j + 1 := ⟨Ord.lenN n - 1, by omega⟩
  have hji : ((Ord.lenN n : Nat) : Int) - 1 = (j : Int) := by omega
  rw [hj2, Nat.add_sub_cancel] at hL3
  have hpow : (2 : Int) ^ j ≤ 64 ∧ 1 ≤ (2 : Int) ^ j := by
    have : j = 0 ∨ j = 1 ∨ j = 2 ∨ j = 3 ∨ j = 4 ∨ j = 5 ∨ j = 6 := by omega
    rcases this with rfl | rfl | rfl | rfl | rfl | rfl | rfl <;> decide
  have hsh : ∀ (l : Bool), binV Try.prog .shl 3 l (.int .i64 1) (.int .i64 (j : Int)) = some (.int .i64 ((2 : Int) ^ j)) := fun l => shl_small (by omega)
  generalize hpw : (2 : Int) ^ j = pw at *
  have w0 : m ≠ 0 := by omega
  refine L_reg [5, 6, 7, 8] (fun K hK => ?_)
  simp [okFn_low]
  refine hL1 _ _ (fun H1 E1 => ?_)
  simp
  apply hK; clear hK K
  refine L_reg [5, 6, 7, 8, 9, 10] (fun K hK => ?_)
  simp [okFn_low, hmi, wrap_i64 (a := (m : Int)) (by omega)]
  refine hL2 _ _ (fun H2 E2 => ?_)
  simp
  apply hK; clear hK K
  refine L_reg [5, 6, 7, 8, 9, 10, 11, 12] (fun K hK => ?_)
  simp [okFn_low]
  refine hL3 _ _ (fun H3 E3 => ?_)
  simp
  apply hK; clear hK K
  refine L_reg [5, 6, 7, 8, 9, 10, 11, 12, 13, 14] (fun K hK => ?_)
  simp [okFn_low]
  refine hO _ _ (fun v H4 o4 E4 => ?_)
  simp
  apply hK; clear hK K
  obtain ⟨r, of, ver, sz, full, rfl, hld⟩ := o4.own.ls
  rw [allS_len]
  have g1 : ¬ (x : Int) < 0 := by omega
  have g2 : ¬ (n : Int) ≤ x := by omega
  have g2' : ¬ n ≤ x := by omega
  have g3 : IntKind.i64.wrap ((x : Int) + km) = (x : Int) + km := wrap_i64 (by omega)
  have g4 : IntKind.i64.wrap (n : Int) = n := wrap_i64 (by omega)
  have g5 : IntKind.u64.wrap (n : Int) = n := wrap_u64 (by omega)
  have g6 : IntKind.i64.wrap ((n : Int) - pw) = (n : Int) - pw := wrap_i64 (by omega)
  have g7 : IntKind.i64.wrap (2 * ((n : Int) - pw)) = 2 * ((n : Int) - pw) := wrap_i64 (by omega)
  have g8 : IntKind.i64.wrap (j : Int) = j := wrap_i64 (by omega)
  have g9 : IntKind.i64.wrap y = y := wrap_i64 (by omega)
  have g10 : IntKind.i64.wrap (km : Int) = km := wrap_i64 (by omega)
  have g11 : IntKind.i64.wrap (m : Int) = m := wrap_i64 (by omega)
  refine L_reg [13, 101] (fun K hK => ?_)
  simp (maxSteps := 3000000) [okFn_low, pickV, g1, g2, g3, g5, g11, hmi, w0, em, em2]
  refine Ord.Len_ac n _ _ (by omega) ?_
  simp (maxSteps := 3000000) [pickV, hji, g6, g7, g8, hsh]
  apply hK; clear hK K
  refine L_false (by simp) ?_
  refine L_reg [102, 103, 104] (fun K hK => ?_)
  simp
  apply hK; clear hK K
  refine L_block (L_loopV [104] (fun m vs H' => ∃ i : Nat, m = n - i ∧ i ≤ n ∧ vs = [.int .i64 i] ∧ H4 = H') _ [.int .i64 0] rfl ⟨0, rfl, by omega, rfl, rfl⟩ ?_)
  rintro _ _ _ ⟨i, rfl, hi, rfl, rfl⟩
  refine L_reg [102, 103, 104, 105] (fun K hK => ?_)
  simp
  apply hK; clear hK K
  refine L_dec (i < n) (by simp) (fun hlt => ?_) (fun hge => L_exit ?_)
  · refine L_block ?_
    obtain ⟨r', rfl, rfl, hxx⟩ := hld i (by rw [allS_len]; exact hlt)
    rw [← g_lt, g_all hlt] at hxx
    refine L_reg [15, 16, 102, 103, 104] (fun K hK => ?_)
    simp [hxx, hlt]
    apply hK; clear hK K
    refine L_reg [102, 103, 104, 111] (fun K hK => ?_)
    simp
    apply hK; clear hK K
    refine L_false (by simp) ?_
    refine L_reg [102, 103, 104] (fun K hK => ?_)
    simp [wrap_i64 (a := (i : Int) + 1) (by omega)]
    apply hK; clear hK K
    exact ⟨n - (i + 1), [.int .i64 (i + 1 : Nat)], by omega, by simp, i + 1, rfl, by omega, rfl, rfl⟩
  · refine L_reg [4] (fun K hK => ?_)
    simp [okFn_low]
    refine works_ac _ _ ?_
    simp
    apply hK; clear hK K
    exact L_ret ⟨.inr rfl, _, rfl, rfl⟩
end Go.Proofs.Ytmlhekfkniibmaa

/- What a law's numbers are. -/
namespace Go.Proofs.Ytmlhekfkniibmaa
open Go Go.Proofs.Ytmlhekfkniibmaa.AX Go.RowKit
theorem u8_of {a : Int} (w : (Lit.int .u8 a).wf = true) : ∃ n : Nat, a = n ∧ n < 256 := by
  have h : IntKind.u8.min ≤ a ∧ a ≤ IntKind.u8.max := by simpa [Lit.wf] using w
  have h1 : IntKind.u8.min = 0 := rfl
  have h2 : IntKind.u8.max = 255 := rfl
  exact ⟨a.toNat, by omega, by omega⟩
theorem u32_of {a : Int} (w : (Lit.int .u32 a).wf = true) : ∃ n : Nat, a = n ∧ n < 4294967296 := by
  have h : IntKind.u32.min ≤ a ∧ a ≤ IntKind.u32.max := by simpa [Lit.wf] using w
  have h1 : IntKind.u32.min = 0 := rfl
  have h2 : IntKind.u32.max = 4294967295 := rfl
  exact ⟨a.toNat, by omega, by omega⟩
theorem grown_int (a b : Int) (wa : (Lit.int .u8 a).wf = true) (wb : (Lit.int .u32 b).wf = true) (H : AH) : AC Try.prog 9 [.int .u8 a, .int .u32 b] H fun u _ => u = .bool true := by
  obtain ⟨a, rfl, ha⟩ := u8_of wa
  obtain ⟨b, rfl, hb⟩ := u32_of wb
  exact benchGrown_ac a b ha hb H
end Go.Proofs.Ytmlhekfkniibmaa

/- Lists by what is read of them; one is deleted; those who sit, by a place. -/
namespace Go.Proofs.Ytmlhekfkniibmaa
open Go Go.Proofs.Ytmlhekfkniibmaa.AX

theorem ls_len {H : AH} {v : AV} {l : List Int} (h : Ls H v l) : aLen Try.prog 22 v = some (.int .i64 l.length) := by
  obtain ⟨r, off, ver, sz, full, rfl, -⟩ := h
  exact len22 ..
theorem ls_ix {H : AH} {v : AV} {l : List Int} (h : Ls H v l) {i : Nat} (hi : i < l.length) : ∃ r p ver, (∀ k, aIndexAddr Try.prog 22 v (.int k (i : Int)) = some (.ptr r p ver)) ∧ ld H r p ver = some (.int .i64 (g l i)) := by
  obtain ⟨r, off, ver, sz, full, rfl, hld⟩ := h
  obtain ⟨r', rfl, rfl, hx⟩ := hld i hi
  rw [← g_lt hi] at hx
  exact ⟨r', off + i, ver, fun k => by simp [hi], hx⟩
theorem ls_hi {H : AH} {v : AV} {l : List Int} (h : Ls H v l) (h0 : 0 < l.length) {m : Nat} (hm : m ≤ l.length) : ∃ u, aSlice Try.prog 22 v none (some (.int .i64 (m : Int))) none = some u ∧ Ls H u (l.take m) := by
  obtain ⟨r, off, ver, sz, full, rfl, hsz, hsub⟩ := h.sub
  obtain rfl := hsz (by intro e; rw [e] at h0; simp at h0)
  have h2 := hsub 0 m (full && m == l.length) (by omega) hm
  rw [Nat.sub_zero, List.drop_zero] at h2
  exact ⟨_, slice_hi slz22 r off _ ver full hm, h2⟩
theorem un22 : ∃ e ie, Try.prog.underlying 22 = some (.slice e) ∧ Try.prog.info? e = some ie ∧ ie.size = 1 := by
  have h := slz22
  unfold slSz at h
  split at h
  case h_2 => cases h
  rename_i e he
  cases hi : Try.prog.info? e with
  | none => rw [hi] at h; cases h
  | some ie => rw [hi] at h; exact ⟨e, ie, he, hi, Option.some.inj h⟩
theorem clip3 (r ver n : Nat) (i : Nat) (hi : i < n) : ∃ v, aSlice Try.prog 22 (.slice (some r) 0 n ver 1 false) (some (.int .i64 (i : Int))) (some (.int .i64 ((i : Int) + 1))) (some (.int .i64 (n : Int))) = some v := by
  obtain ⟨e, ie, h1, h2, h3⟩ := un22
  have hb : aBounds n (some (.int .i64 (i : Int))) (some (.int .i64 ((i : Int) + 1))) (some (.int .i64 (n : Int))) = some (i, i + 1, n) := by
    simp [aBounds, aBound, show (0 : Int) ≤ (i : Int) + 1 by omega, show (i : Int) + 1 ≤ (n : Int) by omega, show ((i : Int) + 1).toNat = i + 1 by omega]
  simp only [aSlice, h1, h2, h3, if_true, hb, Option.map_some]
  exact ⟨_, rfl⟩
theorem more (H : AH) (r ver n s : Nat) (cells : List AV) (hr : H[r]? = some (.row cells ver s false)) (hn : 0 < n) (hc : n ≤ cells.length) :
    aSlice Try.prog 22 (.slice (some r) 0 (n - 1) ver 1 false) (some (.int .i64 ((n - 1 : Nat) : Int))) (some (.int .i64 (n : Int))) none = none ∧
    sliceR Try.prog 22 H (.slice (some r) 0 (n - 1) ver 1 false) (some (.int .i64 ((n - 1 : Nat) : Int))) (some (.int .i64 (n : Int))) none = some (.slice (some r) (n - 1) 1 ver 1 false) := by
  obtain ⟨e, ie, h1, h2, h3⟩ := un22
  have hb : aBounds (n - 1) (some (.int .i64 ((n - 1 : Nat) : Int))) (some (.int .i64 (n : Int))) none = none := by
    have : ¬ ((n : Int) ≤ ((n - 1 : Nat) : Int)) := by omega
    simp [aBounds, aBound]
    omega
  have hb2 : aBounds ((cells.length - 0) / 1) (some (.int .i64 ((n - 1 : Nat) : Int))) (some (.int .i64 (n : Int))) none = some (n - 1, n, (cells.length - 0) / 1) := by
    have h4 : (n : Int) ≤ (cells.length : Int) := by omega
    have h5 : ((n - 1 : Nat) : Int) ≤ (n : Int) := by omega
    simp only [aBounds, aBound, Nat.sub_zero, Nat.div_one, Option.bind_some]
    rw [if_pos ⟨by omega, h4⟩, Option.bind_some, if_pos ⟨by omega, by rw [Int.toNat_natCast]; exact h5⟩, Option.bind_some, Int.toNat_natCast, Int.toNat_natCast]
  constructor
  · simp only [aSlice, h1, h2, h3, if_true, hb, Option.map_none]
  · simp only [sliceR, h1, h2, h3, hr]
    rw [if_pos ⟨trivial, trivial, by omega, rfl, trivial⟩, hb2]
    simp
    omega
set_option maxRecDepth 100000 in
theorem Delete_ac (r ver stale : Nat) (tl : List AV) (l : List Int) (i : Nat) (H : AH) (Q : AV → AH → Prop) (hi : i < l.length) (hl : l.length ≤ 1000000) (hr : H[r]? = some (.row (l.map (.int .i64) ++ tl) ver stale false)) (hone : ∀ x ∈ l.map (.int .i64) ++ tl, x.one = true)
    (h : ∀ H' s' tl', H'[r]? = some (.row ((l.eraseIdx i).map (.int .i64) ++ tl') ver s' false) → (∀ x ∈ (l.eraseIdx i).map (.int .i64) ++ tl', x.one = true) → H'.length = H.length → (∀ j, j ≠ r → H'[j]? = H[j]?) → Q (.slice (some r) 0 (l.length - 1) ver 1 false) H') :
    AC Try.prog 42 [.slice (some r) 0 l.length ver 1 false, .int .i64 i, .int .i64 ((i : Int) + 1)] H Q := by
  obtain ⟨u, hu⟩ := clip3 r ver l.length i hi
  refine L_body 33 Try.func42 rfl rfl ?_
  refine L_reg [0, 1, 2] (fun K hK => ?_)
  simp
  apply hK; clear hK K
  refine L_reg [0, 1, 2] (fun K hK => ?_)
  simp [hu]
  apply hK; clear hK K
  refine L_reg [0, 1, 2, 16] (fun K hK => ?_)
  simp
  apply hK; clear hK K
  refine L_dec ((i : Int) = (i : Int) + 1) (by simp; rfl) (fun he => by omega) (fun he => ?_)
  refine L_reg [0, 1, 2, 7] (fun K hK => ?_)
  simp
  apply hK; clear hK K
  have hil : i < (l.map (AV.int .i64)).length := by simpa using hi
  obtain ⟨s', happ⟩ := del_append (H := H) (t := 22) el22 hr hone hil (by simp; omega) false
  simp only [List.length_map] at happ
  refine L_regT mixed [0, 7] (by kernel_rfl) (fun K hK => ?_)
  have e1 : aSlice Try.prog 22 (.slice (some r) 0 l.length ver 1 false) none (some (.int .i64 (i : Int))) none = some (.slice (some r) 0 i ver 1 false) := by
    have := slice_hi slz22 (some r) 0 l.length ver false (k := .i64) (i := i) (by omega)
    simpa using this
  have e2 : aSlice Try.prog 22 (.slice (some r) 0 l.length ver 1 false) (some (.int .i64 ((i : Int) + 1))) none none = some (.slice (some r) (i + 1) (l.length - (i + 1)) ver 1 false) := by
    have := slice_lo slz22 (some r) 0 l.length ver false (k := .i64) (i := i + 1) (by omega)
    simpa using this
  simp [happ, e1, e2]
  apply hK; clear hK K
  have hrl : r < H.length := (List.getElem?_eq_some_iff.1 hr).1
  obtain ⟨H1, hH1⟩ : ∃ H1, H1 = H.set r (AObj.row ((l.map (AV.int .i64)).eraseIdx i ++ ((l.map (AV.int .i64)).drop (l.length - 1) ++ tl)) ver s' false) := ⟨_, rfl⟩
  have hr1 : H1[r]? = some (AObj.row ((l.map (AV.int .i64)).eraseIdx i ++ ((l.map (AV.int .i64)).drop (l.length - 1) ++ tl)) ver s' false) := by
    rw [hH1, List.getElem?_set]; simp [hrl]
  have hX1 : H1.length = H.length ∧ ∀ j, j ≠ r → H1[j]? = H[j]? := by
    rw [hH1]
    exact ⟨by simp, fun j hj => by rw [List.getElem?_set]; simp [Ne.symm hj]⟩
  obtain ⟨x, hx⟩ : ∃ x, (l.map (AV.int .i64)).drop (l.length - 1) = [x] := by
    have : ((l.map (AV.int .i64)).drop (l.length - 1)).length = 1 := by simp; omega
    exact List.length_eq_one_iff.1 this
  have hxo : x.one = true := hone x (List.mem_append_left _ (List.mem_of_mem_drop (i := l.length - 1) (by rw [hx]; simp)))
  rw [hx, List.singleton_append] at hr1
  rw [← hH1]
  clear happ hH1
  have hel : ((l.map (AV.int .i64)).eraseIdx i).length = l.length - 1 := by rw [List.length_eraseIdx]; simp [hi]
  obtain ⟨e3, e4⟩ := more H1 r ver l.length s' _ hr1 (by omega) (by simp [hel]; omega)
  have e5 := del_clear elz22 hr1 hxo rfl hel false
  refine L_reg [0] (fun K hK => ?_)
  simp [e3, e4, e5]
  apply hK; clear hK K
  refine L_reg [6] (fun K hK => ?_)
  simp
  apply hK; clear hK K
  refine L_ret ⟨.inr rfl, _, rfl, ?_⟩
  have e6 : (l.map (AV.int .i64)).eraseIdx i = (l.eraseIdx i).map (.int .i64) := by rw [List.eraseIdx_eq_take_drop_succ, List.eraseIdx_eq_take_drop_succ, List.map_append, List.map_take, List.map_drop]
  refine h _ (min s' (l.length - 1)) (.int .i64 0 :: tl) ?_ ?_ (by simp [hX1.1]) fun j hj => by rw [List.getElem?_set, ← hX1.2 j hj]; simp [Ne.symm hj]
  · rw [← e6, List.getElem?_set]
    simp [(List.getElem?_eq_some_iff.1 hr1).1]
  · intro y hy
    rcases List.mem_append.1 hy with hy | hy
    · obtain ⟨z, -, rfl⟩ := List.mem_map.1 hy; rfl
    · rcases List.mem_cons.1 hy with rfl | hy
      · rfl
      · exact hone y (List.mem_append_right _ hy)


/-- Who sits, from a place on. -/
def rotL (s : List Int) (a : Nat) : List Int := s.drop a ++ s.take a
theorem rotL_len {s : List Int} {a : Nat} (h : a ≤ s.length) : (rotL s a).length = s.length := by simp [rotL]; omega
theorem rotL_g {s : List Int} {a b : Nat} (ha : a ≤ s.length) (hb : b < s.length) : g (rotL s a) b = g s ((a + b) % s.length) := by
  unfold rotL
  rw [g_app]
  simp only [List.length_drop]
  split
  · rename_i h
    rw [g_drop, Nat.mod_eq_of_lt (by omega)]
  · rename_i h
    rw [g_take (by omega), show a + b = (b - (s.length - a)) + s.length by omega, Nat.add_mod_right, Nat.mod_eq_of_lt (by omega)]
theorem rotL_rot {s : List Int} {a b : Nat} (ha : a ≤ s.length) (hb : b < s.length) : rot (rotL s a) b = rotL (s.eraseIdx ((a + b) % s.length)) ((a + b) % s.length) := by
  have hc : (a + b) % s.length < s.length := Nat.mod_lt _ (by omega)
  have e2 : rotL (s.eraseIdx ((a + b) % s.length)) ((a + b) % s.length) = s.drop ((a + b) % s.length + 1) ++ s.take ((a + b) % s.length) := by
    unfold rotL
    rw [List.eraseIdx_eq_take_drop_succ, List.drop_left' (by simp; omega), List.take_left' (by simp; omega)]
  rw [e2]
  apply g_ext
  · rw [rot_len (by rw [rotL_len ha]; exact hb), rotL_len ha]; simp; omega
  · intro i hi
    rw [rot_len (by rw [rotL_len ha]; exact hb), rotL_len ha] at hi
    unfold rot
    rw [g_app, g_app]
    simp only [List.length_drop, rotL_len ha]
    have hm : (a + b) % s.length = if a + b < s.length then a + b else a + b - s.length := by
      split
      · rename_i h; exact Nat.mod_eq_of_lt h
      · rename_i h; rw [show a + b = (a + b - s.length) + s.length by omega, Nat.add_mod_right, Nat.mod_eq_of_lt (by omega)]; omega
    have hgl : ∀ j, j < s.length → g (rotL s a) j = g s (if a + j < s.length then a + j else a + j - s.length) := fun j hj => by
      rw [rotL_g ha hj]
      congr 1
      split
      · rename_i h; exact Nat.mod_eq_of_lt h
      · rename_i h; rw [show a + j = (a + j - s.length) + s.length by omega, Nat.add_mod_right, Nat.mod_eq_of_lt (by omega)]; omega
    have hm' : (a + b < s.length ∧ (a + b) % s.length = a + b) ∨ (s.length ≤ a + b ∧ (a + b) % s.length = a + b - s.length) := by
      rw [hm]
      split
      · exact .inl ⟨by omega, rfl⟩
      · exact .inr ⟨by omega, rfl⟩
    clear hm e2
    generalize (a + b) % s.length = M at *
    by_cases h1 : i < s.length - (b + 1)
    · rw [if_pos h1, g_drop, hgl (b + 1 + i) (by omega)]
      by_cases h3 : i < s.length - (M + 1)
      · rw [if_pos h3, g_drop]; congr 1; split <;> omega
      · rw [if_neg h3, g_take (by omega)]; congr 1; split <;> omega
    · rw [if_neg h1, g_take (by omega), hgl (i - (s.length - (b + 1))) (by omega)]
      by_cases h3 : i < s.length - (M + 1)
      · rw [if_pos h3, g_drop]; congr 1; split <;> omega
      · rw [if_neg h3, g_take (by omega)]; congr 1; split <;> omega
theorem at_mod {a k m : Nat} (hk : 1 ≤ k) (_hm : 0 < m) : (a + k - 1) % m = (a + (k - 1) % m) % m := by
  rw [Nat.add_mod_mod, show a + k - 1 = a + (k - 1) by omega]
/-- What a search has found before a count. -/
def LV (P : Nat → Prop) (k v : Nat) : Prop := (v = 0 ∧ ∀ j, 1 ≤ j → j < k → ¬ P j) ∨ (1 ≤ v ∧ v < k ∧ P v ∧ ∀ j, 1 ≤ j → j < v → ¬ P j)
theorem lv_start (P : Nat → Prop) : LV P 1 0 := .inl ⟨rfl, fun j h1 h2 => by omega⟩
theorem lv_next {P : Nat → Prop} [DecidablePred P] {k v : Nat} (hk : 1 ≤ k) (h : LV P k v) : LV P (k + 1) (if v = 0 ∧ P k then k else v) := by
  rcases h with ⟨rfl, h⟩ | ⟨h1, h2, h3, h4⟩
  · by_cases hP : P k
    · rw [if_pos ⟨rfl, hP⟩]; exact .inr ⟨hk, by omega, hP, h⟩
    · rw [if_neg (fun e => hP e.2)]
      refine .inl ⟨rfl, fun j j1 j2 => ?_⟩
      by_cases e : j = k
      · rw [e]; exact hP
      · exact h j j1 (by omega)
  · rw [if_neg (by omega)]; exact .inr ⟨h1, by omega, h3, h4⟩
theorem minV_none {P : Nat → Prop} (h : ∀ j, 1 ≤ j → j ≤ 1000 → ¬ P j) : minV P = (0, 12) := by
  unfold minV
  rw [dif_neg (fun ⟨k, h1, h2⟩ => h k h1.1 h1.2.1 h1.2.2)]
theorem minV_some {P : Nat → Prop} {k : Nat} (k1 : 1 ≤ k) (k2 : k ≤ 1000) (k3 : P k) (k4 : ∀ j, 1 ≤ j → j < k → ¬ P j) : minV P = ((k : Int), 0) := by
  unfold minV
  have hex : ∃ k, (1 ≤ k ∧ k ≤ 1000 ∧ P k) ∧ ∀ j, 1 ≤ j → j < k → ¬ P j := ⟨k, ⟨k1, k2, k3⟩, k4⟩
  rw [dif_pos hex]
  have hc := Classical.choose_spec hex
  have : Classical.choose hex = k := by
    generalize Classical.choose hex = m at hc
    rcases Nat.lt_trichotomy m k with e | e | e
    · exact absurd hc.1.2.2 (k4 m hc.1.1 e)
    · exact e
    · exact absurd k3 (hc.2 k k1 e)
  rw [this]
theorem lv_end {P : Nat → Prop} {k v : Nat} (h : LV P k v) (hk : k ≤ 1001) (he : k = 1001 ∨ v ≠ 0) : (v = 0 ∧ minV P = (0, 12)) ∨ (0 < v ∧ minV P = ((v : Int), 0)) := by
  rcases h with ⟨rfl, h⟩ | ⟨h1, h2, h3, h4⟩
  · have : k = 1001 := by omega
    exact .inl ⟨rfl, minV_none (fun j j1 j2 => h j j1 (by omega))⟩
  · exact .inr ⟨h1, minV_some h1 (by omega) h3 h4⟩
theorem homI_ok {n : Int} {l : List Int} (h1 : ∀ j, j < l.length → 0 ≤ g l j ∧ g l j < n) (h2 : ∀ j, 0 < j → j < l.length → g l (j - 1) < g l j) : ∀ m i, i + m ≤ l.length → homI n l m i = 0
  | 0, _, _ => rfl
  | m + 1, i, h => by
    simp only [homI]
    rw [if_pos (h1 i (by omega)), if_neg (fun e => by have := h2 i e.1 (by omega); omega)]
    exact homI_ok h1 h2 m (i + 1) (by omega)
theorem homeE_ok {n : Int} {l : List Int} (hn : 1 ≤ n ∧ n ≤ 20) (h1 : ∀ x ∈ l, 0 ≤ x ∧ x < n) (h2 : l.Pairwise (· < ·)) : homeE n l = 0 := by
  unfold homeE
  rw [if_pos hn]
  refine homI_ok (fun j hj => h1 _ (by rw [g_lt hj]; simp)) (fun j j0 hj => ?_) _ _ (by omega)
  rw [g_lt (by omega), g_lt hj]
  exact (List.pairwise_iff_getElem.1 h2) (j - 1) j (by omega) hj (by omega)
end Go.Proofs.Ytmlhekfkniibmaa

/- BenchSearched, walked. -/
namespace Go.Proofs.Ytmlhekfkniibmaa
open Go Go.Proofs.Ytmlhekfkniibmaa.AX Go.RowKit
theorem SmallN_ac (n x : Nat) (h1 : 1 ≤ n) (h2 : n ≤ 20) (hx : x < n) (H : AH) (Q : AV → AH → Prop) (h : ∀ H', Ext H H' → Q (.tuple [.int .i64 (minV (LastIs n x)).1, .int .i64 (minV (LastIs n x)).2]) H') : AC Try.prog 33 [.int .i64 n, .int .i64 x] H Q := by
  refine Smallest_ac n x H Q (fun H1 E1 => smallQ_mk ?_)
  unfold smallV
  rw [if_pos (by omega), if_pos (by omega), Int.toNat_natCast]
  exact h H1 E1
theorem FirstN_ac (n : Nat) (v : AV) (l : List Int) (h0 : homeE n l = 0) (hlen : l.length ≤ 1000000) (H : AH) (Q : AV → AH → Prop) (hv : Ls H v l) (h : ∀ H', Ext H H' → Q (.tuple [.int .i64 (minV (FirstIs n l)).1, .int .i64 (minV (FirstIs n l)).2]) H') : AC Try.prog 35 [.int .i64 n, v] H Q := by
  refine First_ac n v l H Q hv hlen (fun H1 E1 => firstQ_mk ?_)
  unfold firstV
  rw [if_pos h0, Int.toNat_natCast]
  exact h H1 E1
set_option maxRecDepth 100000 in
set_option maxHeartbeats 8000000 in
theorem benchSearched_ac (a b c : Nat) (ha : a < 256) (hb : b < 256) (_hc : c < 4294967296) (H : AH) : AC Try.prog 11 [.int .u8 a, .int .u8 b, .int .u32 c] H fun u _ => u = .bool true := by
  refine L_body 180 Try.func11 rfl rfl ?_
  refine L_reg [0, 1, 2] (fun K hK => ?_)
  simp
  apply hK; clear hK K
  obtain ⟨n, hn⟩ : ∃ n : Nat, n = 1 + a % 12 := ⟨_, rfl⟩
  have e1 : (1 : Int) + ((a : Int)).tmod 12 = (n : Int) := by rw [Int.tmod_eq_emod_of_nonneg (by omega)]; omega
  have f1 : IntKind.i64.wrap ((a : Int).tmod 12) = (a : Int).tmod 12 := by rw [Int.tmod_eq_emod_of_nonneg (by omega)]; exact wrap_i64 (by omega)
  refine L_reg [1, 2, 7] (fun K hK => ?_)
  simp [wrap_i64 (a := (a : Int)) (by omega), e1, wrap_i64 (a := (n : Int)) (by omega)]
  apply hK; clear hK K
  have hn1 : 1 ≤ n := by omega
  have hn2 : n ≤ 12 := by omega
  clear e1 f1 hn ha
  have e2 := tmod_nat b n
  obtain ⟨x, hx⟩ : ∃ x : Nat, x = b % n := ⟨_, rfl⟩
  have hxn : x < n := by rw [hx]; exact Nat.mod_lt _ (by omega)
  rw [← hx] at e2
  have hn0 : n ≠ 0 := by omega
  refine L_reg [2, 7, 8] (fun K hK => ?_)
  simp [wrap_i64 (a := (b : Int)) (by omega), hn0, e2]
  apply hK; clear hK K
  clear e2 hx hb
  refine L_reg [2, 7, 8, 9] (fun K hK => ?_)
  simp
  apply hK; clear hK K
  refine L_reg [2, 7, 8, 9, 33, 34] (fun K hK => ?_)
  simp
  apply hK; clear hK K
  refine L_block (L_loopV [9, 34] (fun m vs H' => ∃ (i : Nat) (v : AV) (l : List Int), m = n - i ∧ i ≤ n ∧ vs = [v, .int .i64 i] ∧ OwnF H.length H' v (l.map (.int .i64)) ∧ Ext H H' ∧ l.Pairwise (· < ·) ∧ (∀ y ∈ l, 0 ≤ y ∧ y < i) ∧ l.length ≤ i) _ [.slice none 0 0 0 1 false, .int .i64 0] rfl ⟨0, _, [], rfl, by omega, rfl, .nil _ _, .refl _, .nil, by simp, by simp⟩ ?_)
  rintro m _ H1 ⟨i, v, l, rfl, hi, rfl, hO, hE, hl1, hl2, hl3⟩
  refine L_reg [2, 7, 8, 9, 33, 34, 35] (fun K hK => ?_)
  simp
  apply hK; clear hK K
  refine L_dec (i < n) (by simp) (fun hlt => ?_) (fun hge => L_exit ?_)
  · refine L_block ?_
    refine L_reg [2, 7, 8, 9, 10, 33, 34] (fun K hK => ?_)
    simp
    apply hK; clear hK K
    refine L_reg [2, 7, 8, 9, 10, 33, 34, 41] (fun K hK => ?_)
    simp [Int.natCast_nonneg i]
    apply hK; clear hK K
    refine L_split rfl (fun ht => ?_) (fun hf => ?_)
    · obtain ⟨v', H2, happ, hO2, hE2⟩ := ownF_append hE el22 el22 (x := .int .i64 (i : Int)) (m := 1) hO rfl (by simp; omega)
      refine L_reg [2, 7, 8, 9, 33, 34] (fun K hK => ?_)
      simp [happ]
      apply hK; clear hK K
      refine L_reg [2, 7, 8, 9, 33, 34] (fun K hK => ?_)
      simp [wrap_i64 (a := (i : Int) + 1) (by omega)]
      apply hK; clear hK K
      refine ⟨n - (i + 1), [v', .int .i64 (i + 1 : Nat)], by omega, by simp, i + 1, v', l ++ [(i : Int)], rfl, by omega, rfl, by simpa using hO2, hE2, ?_, ?_, by simp; omega⟩
      · rw [List.pairwise_append]
        exact ⟨hl1, by simp, fun y hy z hz => by simp at hz; rw [hz]; exact (hl2 y hy).2⟩
      · intro y hy
        rcases List.mem_append.1 hy with e | e
        · have := hl2 y e; omega
        · simp at e; omega
    · refine L_reg [2, 7, 8, 9, 33, 34] (fun K hK => ?_)
      simp [wrap_i64 (a := (i : Int) + 1) (by omega)]
      apply hK; clear hK K
      exact ⟨n - (i + 1), [v, .int .i64 (i + 1 : Nat)], by omega, by simp, i + 1, v, l, rfl, by omega, rfl, hO, hE, hl1, fun y hy => by have := hl2 y hy; omega, by omega⟩
  have hii : i = n := by omega
  have hz : homeE n l = 0 := homeE_ok (by omega) (fun y hy => by have := hl2 y hy; omega) hl1
  have hv1 := hO.own.ls
  have hlen : l.length ≤ n := by omega
  have hmv : ∀ P : Nat → Prop, ∃ p q : Int, minV P = (p, q) := fun P => ⟨(minV P).1, (minV P).2, rfl⟩
  have hS := SmallN_ac n x hn1 (by omega) hxn
  obtain ⟨p1, q1, hm1⟩ := hmv (LastIs n x)
  rw [hm1] at hS
  have hF := FirstN_ac n v l hz (by omega)
  obtain ⟨p2, q2, hm2⟩ := hmv (FirstIs n l)
  rw [hm2] at hF
  refine L_reg [7, 8, 9, 11, 12] (fun K hK => ?_)
  simp [okFn_low]
  refine hS _ _ (fun H2 E2 => ?_)
  simp
  apply hK; clear hK K
  refine L_reg [7, 8, 9, 11, 12, 13, 14] (fun K hK => ?_)
  simp [okFn_low]
  refine hF _ _ (hv1.ext E2) (fun H3 E3 => ?_)
  simp
  apply hK; clear hK K
  have hv3 := (hv1.ext E2).ext E3
  clear hS hF hz hl1 hl2 hl3 hv1 hE hO hmv hge hi
  refine L_reg [7, 8, 9, 11, 12, 13, 14, 15, 16] (fun K hK => ?_)
  simp
  apply hK; clear hK K
  refine L_reg [7, 8, 9, 11, 12, 13, 14, 15, 16, 17] (fun K hK => ?_)
  simp
  apply hK; clear hK K
  refine L_block (L_loopV [15, 16, 17] (fun m vs H' => ∃ (k u w : Nat), m = 1001 - k ∧ 1 ≤ k ∧ k ≤ 1001 ∧ LV (LastIs n x) k u ∧ LV (FirstIs n l) k w ∧ vs = [.int .i64 u, .int .i64 w, .int .i64 k] ∧ Ext H3 H') _ [.int .i64 0, .int .i64 0, .int .i64 1] rfl ⟨1, 0, 0, rfl, by omega, by omega, lv_start _, lv_start _, rfl, .refl _⟩ ?_)
  rintro m _ H4 ⟨k, u, w, rfl, hk1, hk2, hu, hw, rfl, hE4⟩
  have hv4 := hv3.ext hE4
  refine L_reg [7, 8, 9, 11, 12, 13, 14, 15, 16, 17, 68] (fun K hK0 => ?_)
  have hK2 : ∀ t : Bool, (t = true ↔ (k ≤ 1000 ∧ (u = 0 ∨ w = 0))) → K [(7, .int .i64 n), (8, .int .i64 x), (9, v), (11, .int .i64 p1), (12, .int .i64 q1), (13, .int .i64 p2), (14, .int .i64 q2), (15, .int .i64 u), (16, .int .i64 w), (17, .int .i64 k), (68, .bool t)] H4 := by
    intro t ht
    refine hK0 _ _ ?_
    clear hK0 K
    refine L_split rfl (fun ht2 => ?_) (fun hf => L_exit ?_)
    · have hk3 := (ht.1 ht2).1
      refine L_block ?_
      clear ht ht2
      refine L_reg [7, 8, 9, 11, 12, 13, 14, 15, 16, 17, 18, 19] (fun K hK => ?_)
      simp
      apply hK; clear hK K
      refine L_reg [7, 8, 9, 11, 12, 13, 14, 15, 16, 17, 18, 19, 71, 72] (fun K hK => ?_)
      simp
      apply hK; clear hK K
      refine L_block (L_loopV [18, 72] (fun m vs H' => ∃ (i : Nat) (y : AV), m = n - i ∧ i ≤ n ∧ vs = [y, .int .i64 i] ∧ OwnF H4.length H' y ((allS i).map (.int .i64)) ∧ Ext H4 H') _ [.slice none 0 0 0 1 false, .int .i64 0] rfl ⟨0, _, rfl, by omega, rfl, .nil _ _, .refl _⟩ ?_)
      rintro m _ H5 ⟨i, y, rfl, hi, rfl, hO, hE⟩
      refine L_reg [7, 8, 9, 11, 12, 13, 14, 15, 16, 17, 18, 19, 71, 72, 73] (fun K hK => ?_)
      simp
      apply hK; clear hK K
      refine L_dec (i < n) (by simp) (fun hlt => ?_) (fun hge => L_exit ?_)
      · refine L_block ?_
        obtain ⟨y', H6, happ, hO2, hE2⟩ := ownF_append hE el22 el22 (x := .int .i64 (i : Int)) (m := 1) hO rfl (by simp [allS]; omega)
        refine L_reg [7, 8, 9, 11, 12, 13, 14, 15, 16, 17, 18, 19, 20, 71, 72] (fun K hK => ?_)
        simp
        apply hK; clear hK K
        refine L_reg [7, 8, 9, 11, 12, 13, 14, 15, 16, 17, 18, 19, 71, 72] (fun K hK => ?_)
        simp [happ]
        apply hK; clear hK K
        refine L_reg [7, 8, 9, 11, 12, 13, 14, 15, 16, 17, 18, 19, 71, 72] (fun K hK => ?_)
        simp [wrap_i64 (a := (i : Int) + 1) (by omega)]
        apply hK; clear hK K
        exact ⟨n - (i + 1), [y', .int .i64 (i + 1 : Nat)], by omega, by simp, i + 1, y', rfl, by omega, rfl, by simpa [allS, List.range_succ] using hO2, hE2⟩
      have hii : i = n := by omega
      rcases hO with ⟨e, -⟩ | ⟨r, ver, st, hr, hyr, hrow⟩
      · exfalso
        have := congrArg List.length e
        simp [allS_len] at this; omega
      have hal : ((allS i).map (AV.int .i64)).length = n := by simp [allS_len, hii]
      rw [hal] at hyr
      rw [hyr]
      refine L_reg [7, 8, 9, 11, 12, 13, 14, 15, 16, 17, 18, 19, 21] (fun K hK => ?_)
      simp
      apply hK; clear hK K
      refine L_block (L_loopV [18, 19, 21] (fun m vs H' => ∃ (at' st : Nat) (s o : List Int) (tl : List AV) (y : AV), s.length = m ∧ at' ≤ m ∧ o.length + m = n ∧ o ++ ordS k m (rotL s at') = orderS n k ∧ vs = [.slice (some r) 0 m ver 1 false, y, .int .i64 at'] ∧ H'[r]? = some (.row (s.map (.int .i64) ++ tl) ver st false) ∧ (∀ z ∈ s.map (.int .i64) ++ tl, z.one = true) ∧ OwnF H4.length H' y (o.map (.int .i64)) ∧ rowOf y ≠ some r ∧ Ext H4 H') _ [.slice (some r) 0 n ver 1 false, .slice none 0 0 0 1 false, .int .i64 0] rfl ⟨0, st, allS n, [], [], _, allS_len n, by omega, by simp, by simp [rotL, orderS], rfl, by rw [hii] at hrow; simpa using hrow, by intro z hz; simp at hz; obtain ⟨z0, -, rfl⟩ := hz; rfl, .nil _ _, by simp [rowOf], hE⟩ ?_)
      clear hrow hE hal hyr hge hi hii y H5
      rintro m _ H5 ⟨at', st, s, o, tl, y, hsl, hat, hol, hord, rfl, hrow, hone, hO, hap, hE⟩
      refine L_reg [7, 8, 9, 11, 12, 13, 14, 15, 16, 17, 18, 19, 21, 82] (fun K hK => ?_)
      simp
      apply hK; clear hK K
      refine L_dec (0 < m) (by simp) (fun hlt => ?_) (fun hge => L_exit ?_)
      · refine L_block ?_
        have em := tmod_nat (at' + k - 1) m
        have eak : (at' : Int) + k - 1 = ((at' + k - 1 : Nat) : Int) := by omega
        have hmm := at_mod (a := at') (m := m) hk1 hlt
        obtain ⟨j, hj⟩ : ∃ j : Nat, j = (at' + k - 1) % m := ⟨_, rfl⟩
        have hjm : j < m := by rw [hj]; exact Nat.mod_lt _ hlt
        rw [← hj] at em hmm
        have hkm : (k - 1) % m < m := Nat.mod_lt _ hlt
        have hrg := rotL_g (s := s) (a := at') (b := (k - 1) % m) (by omega) (by omega)
        have hrr := rotL_rot (s := s) (a := at') (b := (k - 1) % m) (by omega) (by omega)
        rw [hsl, ← hmm] at hrg hrr
        obtain ⟨d, rfl⟩ : ∃ d, m = d + 1 := ⟨m - 1, by omega⟩
        simp only [ordS] at hord
        rw [hrg, hrr] at hord
        have hld : ld H5 r j ver = some (.int .i64 (g s j)) := by
          rw [ld_row hrow, List.getElem?_append_left (by simp; omega), g_lt (by omega)]
          simp [show j < s.length by omega]
        have hrl : r < H5.length := (List.getElem?_eq_some_iff.1 hrow).1
        obtain ⟨y', H6, happ, hO2, hE2, hst, ⟨ry, hry, hry2⟩, hlen2⟩ := ownF_append2 hE el22 el22 (x := .int .i64 (g s j)) (m := 1) hO rfl (by simp; omega)
        have hrow6 : H6[r]? = some (.row (s.map (.int .i64) ++ tl) ver st false) := by rw [hst r hrl hap]; exact hrow
        have hap6 : rowOf y' ≠ some r := by
          intro e
          rw [hry] at e
          obtain rfl := Option.some.inj e
          rcases hry2 with e2 | e2
          · exact hap e2
          · omega
        have hD := Delete_ac r ver st tl s j H6
        rw [hsl] at hD
        have hd1 : (d : Int) + 1 ≠ 0 := by omega
        have hjd : (j : Int) < (d : Int) + 1 := by omega
        push_cast at em hD
        refine L_reg [7, 8, 9, 11, 12, 13, 14, 15, 16, 17, 18, 19, 21] (fun K hK => ?_)
        simp [wrap_i64 (a := (at' : Int) + k) (by omega), eak, wrap_i64 (a := ((at' + k - 1 : Nat) : Int)) (by omega), hd1, em]
        apply hK; clear hK K
        refine L_reg [7, 8, 9, 11, 12, 13, 14, 15, 16, 17, 18, 19, 21] (fun K hK => ?_)
        simp [hjd, hld, happ]
        apply hK; clear hK K
        refine L_reg [7, 8, 9, 11, 12, 13, 14, 15, 16, 17, 18, 19, 21] (fun K hK => ?_)
        simp [okFn_low, wrap_i64 (a := (j : Int) + 1) (by omega)]
        refine hD _ (by omega) (by omega) hrow6 hone (fun H7 s' tl' w1 w2 w3 w4 => ?_)
        simp
        apply hK; clear hK K
        have hkeep : ∀ q o', q ≠ r → H6[q]? = some o' → H7[q]? = some o' := fun q o' hq ho => by rw [w4 q hq]; exact ho
        refine ⟨d, [.slice (some r) 0 d ver 1 false, y', .int .i64 j], by omega, by simp, j, s', s.eraseIdx j, o ++ [g s j], tl', y', by rw [List.length_eraseIdx, if_pos (by omega)]; omega, by omega, by simp; omega, by rw [List.append_assoc]; exact hord, rfl, w1, w2, ?_, hap6, ⟨by have := hE2.1; omega, fun q hq => by rw [w4 q (by omega)]; exact hE2.2 q hq⟩⟩
        have hO3 : OwnF H4.length H6 y' ((o ++ [g s j]).map (.int .i64)) := by simpa using hO2
        rcases hO3 with e | ⟨r2, ve2, st2, g1, g2, g3⟩
        · exact .inl e
        · refine .inr ⟨r2, ve2, st2, g1, g2, hkeep r2 _ (fun e => ?_) g3⟩
          rw [g2, e] at hap6; exact hap6 rfl
      have hm0 : m = 0 := by omega
      subst hm0
      simp only [ordS, List.append_nil] at hord
      have ho := hO.own.ls
      have hE5 := hE4.trans hE
      have hv5 := hv4.ext hE
      have hL : ∀ j, j < n → ∃ r p ver, (∀ k, aIndexAddr Try.prog 22 y (.int k (j : Int)) = some (.ptr r p ver)) ∧ ld H5 r p ver = some (.int .i64 (g o j)) := fun j hj => ls_ix ho (by omega)
      clear hrow hone hap hsl hat hge hO
      clear s tl st
      have hon : o.length = n := by omega
      subst hord
      have hu' := lv_next hk1 hu
      have hw' := lv_next hk1 hw
      refine L_reg [7, 8, 9, 11, 12, 13, 14, 15, 16, 17, 19, 112] (fun K hK0 => ?_)
      have hK3 : ∀ t : Bool, (t = true ↔ (u = 0 ∧ LastIs n x k)) → K [(7, .int .i64 n), (8, .int .i64 x), (9, v), (11, .int .i64 p1), (12, .int .i64 q1), (13, .int .i64 p2), (14, .int .i64 q2), (15, .int .i64 u), (16, .int .i64 w), (17, .int .i64 k), (19, y), (112, .bool t)] H5 := by
        intro t ht
        refine hK0 _ _ ?_
        clear hK0 K
        refine L_condK [7, 8, 9, 11, 12, 13, 14, 15, 16, 17, 19] (fun e' H' => e' = [(7, .int .i64 n), (8, .int .i64 x), (9, v), (11, .int .i64 p1), (12, .int .i64 q1), (13, .int .i64 p2), (14, .int .i64 q2), (15, .int .i64 ((if u = 0 ∧ LastIs n x k then k else u : Nat) : Int)), (16, .int .i64 w), (17, .int .i64 k), (19, y)] ∧ H5 = H') (t := t) rfl (fun ht2 => ?_) (fun ht2 => ?_) ?_
        · rw [if_pos (ht.1 ht2)]
          refine L_reg [7, 8, 9, 11, 12, 13, 14, 15, 16, 17, 19] (fun K hK => ?_)
          simp
          apply hK; clear hK K
          exact ⟨by simp, rfl⟩
        · rw [if_neg (fun e => by rw [ht.2 e] at ht2; cases ht2)]
          exact ⟨by simp, rfl⟩
        rintro _ _ ⟨rfl, rfl⟩
        generalize (if u = 0 ∧ LastIs n x k then k else u : Nat) = u' at hu' ⊢
        clear ht t hu
        obtain ⟨z, hz1, hz2⟩ := ls_hi ho (by omega) (show l.length ≤ (orderS n k).length by omega)
        have hzl := ls_len hz2
        rw [List.length_take, Nat.min_eq_left (by omega)] at hzl
        have hvl := ls_len hv5
        refine L_reg [7, 8, 9, 11, 12, 13, 14, 15, 16, 17, 19, 22] (fun K hK => ?_)
        simp
        apply hK; clear hK K
        refine L_reg [7, 8, 9, 11, 12, 13, 14, 15, 16, 17, 22, 117, 118, 119] (fun K hK => ?_)
        simp [hvl, hz1, hzl]
        apply hK; clear hK K
        refine L_block (L_loopV [22, 119] (fun m vs H' => ∃ (i : Nat) (b : Bool), m = l.length - i ∧ i ≤ l.length ∧ (b = true ↔ ∀ j, j < i → g (orderS n k) j ∈ l) ∧ vs = [.bool b, .int .i64 i] ∧ H5 = H') _ [.bool true, .int .i64 0] rfl ⟨0, true, rfl, by omega, ⟨fun _ j hj => by omega, fun _ => rfl⟩, rfl, rfl⟩ ?_)
        rintro m _ _ ⟨i, b, rfl, hi, hb, rfl, rfl⟩
        refine L_reg [7, 8, 9, 11, 12, 13, 14, 15, 16, 17, 22, 117, 118, 119, 120] (fun K hK => ?_)
        simp
        apply hK; clear hK K
        refine L_dec (i < l.length) (by simp) (fun hlt => ?_) (fun hge => L_exit ?_)
        · refine L_block ?_
          obtain ⟨rz, pz, vz, hix, hldz⟩ := ls_ix hz2 (i := i) (by rw [List.length_take]; omega)
          rw [g_take hlt] at hldz
          refine L_reg [7, 8, 9, 11, 12, 13, 14, 15, 16, 17, 22, 24, 117, 118, 119] (fun K hK => ?_)
          simp [hix, hldz]
          apply hK; clear hK K
          cases b with
          | false =>
            refine L_reg [7, 8, 9, 11, 12, 13, 14, 15, 16, 17, 22, 117, 118, 119] (fun K hK => ?_)
            simp [pickV]
            apply hK; clear hK K
            refine L_reg [7, 8, 9, 11, 12, 13, 14, 15, 16, 17, 22, 117, 118, 119] (fun K hK => ?_)
            simp [wrap_i64 (a := (i : Int) + 1) (by omega)]
            apply hK; clear hK K
            exact ⟨l.length - (i + 1), [.bool false, .int .i64 (i + 1 : Nat)], by omega, by simp, i + 1, false, rfl, by omega, ⟨fun e => (by cases e), fun e => hb.2 (fun j hj => e j (by omega))⟩, rfl, rfl⟩
          | true =>
            refine L_reg [7, 8, 9, 11, 12, 13, 14, 15, 16, 17, 22, 117, 118, 119] (fun K hK => ?_)
            simp [okFn_low]
            refine Contains_ac v _ l _ _ hv5 (by omega) ?_
            simp [pickV]
            apply hK; clear hK K
            refine L_reg [7, 8, 9, 11, 12, 13, 14, 15, 16, 17, 22, 117, 118, 119] (fun K hK => ?_)
            simp [wrap_i64 (a := (i : Int) + 1) (by omega)]
            apply hK; clear hK K
            refine ⟨l.length - (i + 1), [.bool (decide (g (orderS n k) i ∈ l)), .int .i64 (i + 1 : Nat)], by omega, by simp, i + 1, _, rfl, by omega, ?_, rfl, rfl⟩
            rw [decide_eq_true_iff]
            constructor
            · intro hm j hj
              by_cases e : j = i
              · rw [e]; exact hm
              · exact hb.1 rfl j (by omega)
            · intro hm; exact hm i (by omega)
        have hi' : i = l.length := by omega
        have hFi : b = true ↔ FirstIs n l k := by
          rw [hb, hi']
          constructor
          · intro hm y hy
            obtain ⟨j, hj, rfl⟩ := List.mem_iff_getElem.1 hy
            simp [hon] at hj
            have := hm j (by omega)
            rw [g_lt (by omega)] at this
            simpa using this
          · intro hm j hj
            refine hm _ ?_
            rw [g_lt (by omega)]
            exact List.mem_iff_getElem.2 ⟨j, by simp [hon]; omega, by simp⟩
        clear hb hi hge hi'
        by_cases hw0 : w = 0
        · subst hw0
          refine L_reg [7, 8, 9, 11, 12, 13, 14, 15, 16, 17, 134] (fun K hK => ?_)
          simp [pickV]
          apply hK; clear hK K
          cases b with
          | true =>
            rw [if_pos ⟨rfl, hFi.1 rfl⟩] at hw'
            refine L_true (by simp) ?_
            refine L_reg [7, 8, 9, 11, 12, 13, 14, 15, 16, 17] (fun K hK => ?_)
            simp
            apply hK; clear hK K
            refine L_reg [7, 8, 9, 11, 12, 13, 14, 15, 16, 17] (fun K hK => ?_)
            simp [wrap_i64 (a := (k : Int) + 1) (by omega)]
            apply hK; clear hK K
            exact ⟨1001 - (k + 1), [.int .i64 u', .int .i64 k, .int .i64 (k + 1 : Nat)], by omega, by simp, k + 1, u', k, rfl, by omega, by omega, hu', hw', rfl, hE5⟩
          | false =>
            rw [if_neg (fun e => by have := hFi.2 e.2; cases this)] at hw'
            refine L_false (by simp) ?_
            refine L_reg [7, 8, 9, 11, 12, 13, 14, 15, 16, 17] (fun K hK => ?_)
            simp [wrap_i64 (a := (k : Int) + 1) (by omega)]
            apply hK; clear hK K
            exact ⟨1001 - (k + 1), [.int .i64 u', .int .i64 (0 : Nat), .int .i64 (k + 1 : Nat)], by omega, by simp, k + 1, u', 0, rfl, by omega, by omega, hu', hw', rfl, hE5⟩
        · rw [if_neg (fun e => hw0 e.1)] at hw'
          have hw1 : ¬ (w : Int) = 0 := by omega
          have hw1b : ((w : Int) == 0) = false := by simpa using hw0
          refine L_reg [7, 8, 9, 11, 12, 13, 14, 15, 16, 17, 134] (fun K hK => ?_)
          simp [pickV, hw1b]
          apply hK; clear hK K
          refine L_false (by simp) ?_
          refine L_reg [7, 8, 9, 11, 12, 13, 14, 15, 16, 17] (fun K hK => ?_)
          simp [wrap_i64 (a := (k : Int) + 1) (by omega)]
          apply hK; clear hK K
          exact ⟨1001 - (k + 1), [.int .i64 u', .int .i64 w, .int .i64 (k + 1 : Nat)], by omega, by simp, k + 1, u', w, rfl, by omega, by omega, hu', hw', rfl, hE5⟩
      obtain ⟨rq, pq, vq, hq1, hq2⟩ := hL (n - 1) (by omega)
      have hn1i : (n : Int) - 1 = ((n - 1 : Nat) : Int) := by omega
      by_cases hu0 : u = 0
      · subst hu0
        simp [pickV, hn1i, wrap_i64 (a := ((n - 1 : Nat) : Int)) (by omega), hq1, hq2]
        refine hK3 _ ?_
        simp only [beq_iff_eq, LastIs, true_and]
      · have hu1 : ¬ (u : Int) = 0 := by omega
        have hu1b : ((u : Int) == 0) = false := by simpa using hu0
        simp [pickV, hu1b]
        exact hK3 false (by simp [hu0])
    · have hend : k = 1001 ∨ (u ≠ 0 ∧ w ≠ 0) := by
        by_cases h1 : k ≤ 1000
        · refine .inr ⟨fun e => ?_, fun e => ?_⟩
          · have := ht.2 ⟨h1, .inl e⟩; rw [hf] at this; cases this
          · have := ht.2 ⟨h1, .inr e⟩; rw [hf] at this; cases this
        · exact .inl (by omega)
      have hu2 := lv_end hu hk2 (hend.imp id And.left)
      have hw2 := lv_end hw hk2 (hend.imp id And.right)
      rw [hm1] at hu2
      rw [hm2] at hw2
      have hfin : (w = 0 ∧ p2 = 0 ∧ q2 = 12) ∨ (0 < w ∧ p2 = w ∧ q2 = 0) := by
        rcases hw2 with ⟨h1, h2⟩ | ⟨h1, h2⟩
        · exact .inl ⟨h1, by simpa using h2⟩
        · exact .inr ⟨h1, by simpa using h2⟩
      refine L_reg [13, 14, 16, 158] (fun K hK0 => ?_)
      have hK3 : K [(13, .int .i64 p2), (14, .int .i64 q2), (16, .int .i64 w), (158, .bool false)] H4 := by
        refine hK0 _ _ ?_
        clear hK0 K
        refine L_false rfl ?_
        refine L_reg [13, 14, 16, 160] (fun K hK => ?_)
        simp
        apply hK; clear hK K
        rcases hfin with ⟨rfl, rfl, rfl⟩ | ⟨h1, rfl, rfl⟩
        · refine L_true (by simp) ?_
          refine L_reg [6] (fun K hK => ?_)
          simp [okFn_low, pickV]
          refine works_ac _ _ ?_
          simp [pickV]
          apply hK; clear hK K
          exact L_ret ⟨.inr rfl, _, rfl, rfl⟩
        · refine L_false (by simp; omega) ?_
          refine L_reg [6] (fun K hK => ?_)
          simp [okFn_low, pickV]
          refine works_ac _ _ ?_
          simp [pickV]
          apply hK; clear hK K
          exact L_ret ⟨.inr rfl, _, rfl, rfl⟩
      rcases hu2 with ⟨h1, h2⟩ | ⟨h1, h2⟩
      · obtain ⟨rfl, rfl⟩ := Prod.mk.inj h2
        subst h1
        simp [pickV]
        exact hK3
      · obtain ⟨rfl, rfl⟩ := Prod.mk.inj h2
        have hu3 : ¬ u = 0 := by omega
        have hu4 : ¬ (u : Int) = 0 := by omega
        have hu5 : (0 : Int) < u := by omega
        have hu6 : ((u : Int) == 0) = false := by simpa using hu3
        simp [pickV, h1, hu6]
        exact hK3
  by_cases h1 : (k : Int) ≤ 1000
  · by_cases h2 : u = 0
    · subst h2
      simp [pickV, h1]
      exact hK2 true (by simp; omega)
    · have h2' : ¬ (u : Int) = 0 := by omega
      have h2b : ((u : Int) == 0) = false := by simpa using h2
      by_cases h3 : w = 0
      · subst h3
        simp [pickV, h1, h2b]
        exact hK2 true (by simp; omega)
      · have h3' : ¬ (w : Int) = 0 := by omega
        have h3b : ((w : Int) == 0) = false := by simpa using h3
        simp [pickV, h1, h2b, h3b]
        exact hK2 false (by simp; omega)
  · simp [pickV, h1]
    exact hK2 false (by simp; omega)
theorem searched_int (a b c : Int) (wa : (Lit.int .u8 a).wf = true) (wb : (Lit.int .u8 b).wf = true) (wc : (Lit.int .u32 c).wf = true) (H : AH) : AC Try.prog 11 [.int .u8 a, .int .u8 b, .int .u32 c] H fun u _ => u = .bool true := by
  obtain ⟨a, rfl, ha⟩ := u8_of wa
  obtain ⟨b, rfl, hb⟩ := u8_of wb
  obtain ⟨c, rfl, hc⟩ := u32_of wc
  exact benchSearched_ac a b c ha hb hc H
end Go.Proofs.Ytmlhekfkniibmaa
