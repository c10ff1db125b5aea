/- Sorting by a comparison: parts by a pivot, and where it comes to stand. -/
import Derived.Test.YtjfmiohgkcjdnaaCb
namespace Go.Proofs.Ytjfmiohgkcjdnaa
open Go Go.Proofs.Ytjfmiohgkcjdnaa.AX

theorem part_fin {_D κ : Int → Int} {a b j pv : Nat} {c d : List Int} {LOW : Int → Prop} (hLd : ∀ x, LOW x ↔ κ x < κ (g c pv)) (hb : b ≤ d.length) (haj : a ≤ j) (hjb : j < b) (hS : Shuf a b c d) (hpiv : g d a = g c pv) (hLo : ∀ k, a < k → k < j + 1 → LOW (g d k)) (hHi : ∀ k, j < k → k < b → ¬ LOW (g d k)) :
    Shuf a b c (sw d j a) ∧ (∀ k, a ≤ k → k < j → κ (g (sw d j a) k) ≤ κ (g (sw d j a) j)) ∧ (∀ k, j < k → k < b → κ (g (sw d j a) j) ≤ κ (g (sw d j a) k)) := by
  have w0 := sw_i (c := d) (i := j) (j := a) (by omega) (by omega)
  have w1 := sw_j (c := d) (i := j) (j := a) (by omega) (by omega)
  have w2 := fun (k : Nat) (k1 : k ≠ j) (k2 : k ≠ a) => sw_o (c := d) (i := j) (j := a) (by omega) (by omega) k1 k2
  refine ⟨hS.trans (.swap hb (by omega) (by omega)), fun k k1 k2 => ?_, fun k k1 k2 => ?_⟩
  · rw [w0, hpiv]
    by_cases k3 : k = a
    · rw [k3, w1]; exact Int.le_of_lt ((hLd _).1 (hLo j (by omega) (by omega)))
    · rw [w2 k (by omega) k3]; exact Int.le_of_lt ((hLd _).1 (hLo k (by omega) (by omega)))
  · rw [w0, hpiv, w2 k (by omega) (by omega)]
    exact Int.not_lt.1 fun h => hHi k k1 k2 ((hLd _).2 h)
set_option maxRecDepth 100000 in
theorem part_ac (f : FuncId) (caps : List AV) (D : Int → Prop) (κ : Int → Int) (r ver a b pv : Nat) (c : List Int) (H : AH) (Q : AV → AH → Prop) (hC : Cmp f caps D κ r H) (hr : Rw r ver H c) (hD : All D c) (hl : c.length ≤ 1000000) (hpa : a ≤ pv) (hpb : pv < b) (hb : b ≤ c.length)
    (h : ∀ (H' : AH) (m : List Int) (p : Nat) (bb : Bool), a ≤ p → p < b → Shuf a b c m → (∀ k, a ≤ k → k < p → κ (g m k) ≤ κ (g m p)) → (∀ k, p < k → k < b → κ (g m p) ≤ κ (g m k)) → Rw r ver H' m → KeepX r H H' → Q (.tuple [.int .i64 p, .bool bb]) H') : AC Try.prog 106 [.slice (some r) 0 c.length ver 1 false, .int .i64 a, .int .i64 b, .int .i64 pv, .func (.func f) [] caps] H Q := by
  refine L_body 178 Try.func106 rfl rfl ?_
  refine L_reg [0, 1, 2, 3, 4] (fun K hK => ?_)
  simp
  apply hK; clear hK K
  generalize hn : c.length = n at *
  obtain ⟨b0, rfl⟩ : ∃ b', b = b' + 1 := ⟨b - 1, by omega⟩
  generalize hb0 : b0 + 1 = b at *
  have hx0 := hr.ld (i := pv) (by omega)
  have hy0 := hr.ld (i := a) (by omega)
  obtain ⟨H2, H3, e1, e2, e3, e4⟩ := hr.swap (i := a) (j := pv) (by omega) (by omega)
  have ga : a < n := by omega
  have gp : pv < n := by omega
  refine L_regT mixed [0, 1, 2, 4] (by kernel_rfl) (fun K hK => ?_)
  simp [ga, gp, hx0, hy0, e1, e2]
  apply hK; clear hK K
  have hbi : (b : Int) - 1 = b0 := by omega
  obtain ⟨i, hi⟩ : ∃ i : Nat, (a : Int) + 1 = i := ⟨a + 1, by omega⟩
  refine L_reg [0, 1, 4, 12, 13] (fun K hK => ?_)
  simp [hi, wrap_i64 (a := (i : Int)) (by omega), hbi, wrap_i64 (a := (b0 : Int)) (by omega)]
  apply hK; clear hK K
  have hS0 : Shuf a b c (sw c a pv) := .swap (by omega) (by omega) (by omega)
  have hpiv : g (sw c a pv) a = g c pv := sw_i (by omega) (by omega)
  generalize hd0 : sw c a pv = d0 at e3 hS0 hpiv
  clear e1 e2 hx0 hy0
  generalize hLOW : (fun x => κ x < κ (g c pv)) = LOW
  have hlow : ∀ x, (LOW x → cmpS (κ x) (κ (g c pv)) < 0) ∧ (¬ LOW x → ¬ cmpS (κ x) (κ (g c pv)) < 0) := by
    intro x
    rw [← hLOW]
    constructor
    · intro h1; exact cmpS_neg.2 h1
    · intro h1 h2; exact h1 (cmpS_neg.1 h2)
  have hLd : ∀ x, LOW x ↔ κ x < κ (g c pv) := fun x => by rw [← hLOW]
  have hdD := hD.perm hS0.1
  have hCk := hC.keep e4
  have hdl : d0.length = n := by rw [hS0.len]; exact hn
  have ha0 := e3.ld (i := a) (by omega)
  have hLo : ∀ k, a < k → k < i → LOW (g d0 k) := fun k k1 k2 => by omega
  have hHi : ∀ k, b0 < k → k < b → ¬ LOW (g d0 k) := fun k k1 k2 => by omega
  rw [hpiv] at ha0
  have hdDa : D (g c pv) := by rw [← hpiv]; exact hdD a (by omega)
  have hrow := e3
  clear e3
  clear hd0
  generalize H3 = H1 at *
  generalize d0 = d at *
  generalize hj0 : b0 = j at *
  refine L_blockR (fun e' H' => ∃ (x2 : Nat) (v : AV), i ≤ x2 ∧ x2 ≤ j + 1 ∧ (∀ k, a < k → k < x2 → LOW (g d k)) ∧ (x2 ≤ j → ¬ LOW (g d x2)) ∧ e' = [(0, .slice (some r) 0 n ver 1 false), (1, .int .i64 a), (4, .func (.func f) [] caps), (12, .int .i64 (x2 : Nat)), (13, .int .i64 (j : Nat)), (47, v)] ∧ H1 = H') (L_loopV [12] (fun n' vs H' => ∃ x2 : Nat, n' = j + 1 - x2 ∧ i ≤ x2 ∧ x2 ≤ j + 1 ∧ (∀ k, a < k → k < x2 → LOW (g d k)) ∧ vs = [.int .i64 x2] ∧ H1 = H') _ [.int .i64 i] rfl ⟨i, rfl, by omega, by omega, hLo, rfl, rfl⟩ ?_) ?_
  · rintro n' _ _ ⟨x2, rfl, h1, h2, hR, rfl, rfl⟩
    by_cases hij : x2 ≤ j
    · have hx := hrow.ld (i := x2) (by omega)
      have g1 : x2 < n := by omega
      refine L_regT mixed [0, 1, 4, 12, 13, 47] (by kernel_rfl) (fun K hK => ?_)
      simp [hij, g1, ga, hx, ha0, hCk.1]
      refine exC_mk (fun Q hQ => hCk.2 H1 (.refl _ _) _ _ (hdD x2 (by omega)) hdDa Q hQ) ?_
      simp [pickV]
      apply hK; clear hK K
      have hc := hlow (g d x2)
      by_cases hL : LOW (g d x2)
      · refine L_true (by first | simpa using hc.1 hL | simpa using hc.2 hL) ?_
        refine L_block ?_
        refine L_reg [0, 1, 4, 12, 13] (fun K hK => ?_)
        simp [wrap_i64 (a := (x2 : Int) + 1) (by omega)]
        apply hK; clear hK K
        refine ⟨j + 1 - (x2 + 1), [.int .i64 (x2 + 1 : Nat)], by omega, by simp, x2 + 1, rfl, by omega, by omega, fun k k1 k2 => ?_, rfl, rfl⟩
        by_cases k3 : k = x2
        · rw [k3]; exact hL
        · exact hR k k1 (by omega)
      · refine L_false (by first | simpa using hc.1 hL | simpa using hc.2 hL) (L_exit ?_)
        exact ⟨x2, _, h1, h2, hR, fun _ => hL, rfl, rfl⟩
    · refine L_regT mixed [0, 1, 4, 12, 13, 47] (by kernel_rfl) (fun K hK => ?_)
      simp [pickV, hij]
      apply hK; clear hK K
      refine L_false (by simp) (L_exit ?_)
      exact ⟨x2, _, h1, h2, hR, fun h => absurd h hij, rfl, rfl⟩
  rintro _ _ ⟨i1, vu, h1u, h2u, hRu, hsu, rfl, rfl⟩
  refine L_blockR (fun e' H' => ∃ (x2 : Nat) (v : AV), x2 ≤ j ∧ i1 ≤ x2 + 1 ∧ (∀ k, x2 < k → k < b → ¬ LOW (g d k)) ∧ (i1 ≤ x2 → LOW (g d x2)) ∧ e' = [(0, .slice (some r) 0 n ver 1 false), (1, .int .i64 a), (4, .func (.func f) [] caps), (12, .int .i64 (i1 : Nat)), (13, .int .i64 (x2 : Nat)), (47, vu), (66, v)] ∧ H1 = H') (L_loopV [13] (fun n' vs H' => ∃ x2 : Nat, n' = x2 + 1 - i1 ∧ x2 ≤ j ∧ i1 ≤ x2 + 1 ∧ (∀ k, x2 < k → k < b → ¬ LOW (g d k)) ∧ vs = [.int .i64 x2] ∧ H1 = H') _ [.int .i64 j] rfl ⟨j, rfl, by omega, by omega, hHi, rfl, rfl⟩ ?_) ?_
  · rintro n' _ _ ⟨x2, rfl, h1, h2, hR, rfl, rfl⟩
    by_cases hij : i1 ≤ x2
    · have hx := hrow.ld (i := x2) (by omega)
      have g1 : x2 < n := by omega
      refine L_regT mixed [0, 1, 4, 12, 13, 47, 66] (by kernel_rfl) (fun K hK => ?_)
      simp [hij, g1, ga, hx, ha0, hCk.1]
      refine exC_mk (fun Q hQ => hCk.2 H1 (.refl _ _) _ _ (hdD x2 (by omega)) hdDa Q hQ) ?_
      simp [pickV]
      apply hK; clear hK K
      have hc := hlow (g d x2)
      by_cases hL : LOW (g d x2)
      · refine L_false (by first | simpa using hc.1 hL | simpa using hc.2 hL) (L_exit ?_)
        exact ⟨x2, _, h1, h2, hR, fun _ => hL, rfl, rfl⟩
      · refine L_true (by first | simpa using hc.1 hL | simpa using hc.2 hL) ?_
        refine L_block ?_
        obtain ⟨x3, rfl⟩ : ∃ x3, x2 = x3 + 1 := ⟨x2 - 1, by omega⟩
        refine L_reg [0, 1, 4, 12, 13, 47] (fun K hK => ?_)
        simp [wrap_i64 (a := (x3 : Int)) (by omega)]
        apply hK; clear hK K
        refine ⟨x3 + 1 - i1, [.int .i64 (x3 : Nat)], by omega, by simp, x3, rfl, by omega, by omega, fun k k1 k2 => ?_, rfl, rfl⟩
        by_cases k3 : k = x3 + 1
        · rw [k3]; exact hL
        · exact hR k (by omega) k2
    · refine L_regT mixed [0, 1, 4, 12, 13, 47, 66] (by kernel_rfl) (fun K hK => ?_)
      simp [pickV, hij]
      apply hK; clear hK K
      refine L_false (by simp) (L_exit ?_)
      exact ⟨x2, _, h1, h2, hR, fun h => absurd h hij, rfl, rfl⟩
  rintro _ _ ⟨j1, vd, h1d, h2d, hRd, hsd, rfl, rfl⟩
  refine L_reg [0, 1, 4, 12, 13, 71] (fun K hK => ?_)
  simp
  apply hK; clear hK K
  refine L_dec (j1 < i1) (by simp) (fun hlt => ?_) (fun hge => ?_)
  · have e : i1 = j1 + 1 := by omega
    obtain ⟨f1, f2, f3⟩ := part_fin (_D := κ) hLd (by omega) (show a ≤ j1 by omega) (by omega) hS0 hpiv (by rw [← e]; exact hRu) hRd
    have hx := hrow.ld (i := j1) (by omega)
    obtain ⟨H4, H5, e1, e2, e3, e5⟩ := hrow.swap (i := j1) (j := a) (by omega) (by omega)
    rw [hpiv] at e1
    have g1 : j1 < n := by omega
    refine L_regT mixed [13] (by kernel_rfl) (fun K hK => ?_)
    simp [g1, ga, hx, ha0, e1, e2]
    apply hK; clear hK K
    refine L_reg [10, 11] (fun K hK => ?_)
    simp
    apply hK; clear hK K
    exact L_ret ⟨.inr rfl, _, rfl, h H5 _ j1 true (by omega) (by omega) f1 f2 f3 e3 (e4.trans e5)⟩
  · have hl1 := hsu (by omega)
    have hl2 := hsd (by omega)
    have hne : i1 ≠ j1 := by rintro rfl; exact hl1 hl2
    obtain ⟨j2, rfl⟩ : ∃ j2, j1 = j2 + 1 := ⟨j1 - 1, by omega⟩
    have hx := hrow.ld (i := i1) (by omega)
    have hy := hrow.ld (i := j2 + 1) (by omega)
    obtain ⟨H4, H5, e1, e2, e3, e5⟩ := hrow.swap (i := i1) (j := j2 + 1) (by omega) (by omega)
    have g1 : i1 < n := by omega
    have g2 : (j2 : Int) + 1 < n := by omega
    have g3 : (0 : Int) ≤ (j2 : Int) + 1 := by omega
    have g4 : ((j2 : Int) + 1).toNat = j2 + 1 := by omega
    refine L_regT mixed [0, 1, 4, 12, 13] (by kernel_rfl) (fun K hK => ?_)
    simp [g1, g2, g3, g4, hx, hy, e1, e2]
    apply hK; clear hK K
    refine L_reg [0, 1, 4, 12, 13] (fun K hK => ?_)
    simp [wrap_i64 (a := (i1 : Int) + 1) (by omega)]
    apply hK; clear hK K
    refine L_reg [0, 1, 4, 12, 13] (fun K hK => ?_)
    simp [wrap_i64 (a := (j2 : Int)) (by omega)]
    apply hK; clear hK K
    have w0 := sw_i (c := d) (i := i1) (j := j2 + 1) (by omega) (by omega)
    have w1 := sw_j (c := d) (i := i1) (j := j2 + 1) (by omega) (by omega)
    have w2 := fun (k : Nat) (k1 : k ≠ i1) (k2 : k ≠ j2 + 1) => sw_o (c := d) (i := i1) (j := j2 + 1) (by omega) (by omega) k1 k2
    refine L_block (L_loopV [12, 13] (fun n' vs H' => ∃ (i j : Nat) (d : List Int), n' = j + 1 - i ∧ a + 1 ≤ i ∧ i ≤ j + 1 ∧ j < b ∧ Shuf a b c d ∧ g d a = g c pv ∧ (∀ k, a < k → k < i → LOW (g d k)) ∧ (∀ k, j < k → k < b → ¬ LOW (g d k)) ∧ vs = [.int .i64 i, .int .i64 j] ∧ Rw r ver H' d ∧ KeepX r H H') _ [.int .i64 (i1 + 1 : Nat), .int .i64 j2] rfl ⟨i1 + 1, j2, sw d i1 (j2 + 1), rfl, by omega, by omega, by omega, hS0.trans (.swap (by omega) (by omega) (by omega)), by rw [w2 a (by omega) (by omega)]; exact hpiv, fun k k1 k2 => ?_, fun k k1 k2 => ?_, rfl, e3, e4.trans e5⟩ ?_)
    · by_cases k3 : k = i1
      · rw [k3, w0]; exact hl2
      · rw [w2 k k3 (by omega)]; exact hRu k k1 (by omega)
    · by_cases k3 : k = j2 + 1
      · rw [k3, w1]; exact hl1
      · rw [w2 k (by omega) k3]; exact hRd k (by omega) k2
    clear w0 w1 w2 e1 e2 e3 e5 hx hy hl1 hl2 hsu hsd hRu hRd hne hrow e4 hS0 hpiv hdl hdD hCk ha0 hdDa hLo hHi g1 g2 g3 g4 hr
    clear H4 H5
    clear d
    clear H1
    rintro _ _ H1 ⟨i, j, d, rfl, hi, hij0, hjb, hS, hpiv, hLo, hHi, rfl, hrow, hK⟩
    have hdl : d.length = n := by rw [hS.len]; exact hn
    have hdD := hD.perm hS.1
    have hCk := hC.keep hK
    have ha0 := hrow.ld (i := a) (by omega)
    rw [hpiv] at ha0
    have hdDa : D (g c pv) := by rw [← hpiv]; exact hdD a (by omega)
    refine L_block ?_
    refine L_blockR (fun e' H' => ∃ (x2 : Nat) (v : AV), i ≤ x2 ∧ x2 ≤ j + 1 ∧ (∀ k, a < k → k < x2 → LOW (g d k)) ∧ (x2 ≤ j → ¬ LOW (g d x2)) ∧ e' = [(0, .slice (some r) 0 n ver 1 false), (1, .int .i64 a), (4, .func (.func f) [] caps), (12, .int .i64 (x2 : Nat)), (13, .int .i64 (j : Nat)), (120, v)] ∧ H1 = H') (L_loopV [12] (fun n' vs H' => ∃ x2 : Nat, n' = j + 1 - x2 ∧ i ≤ x2 ∧ x2 ≤ j + 1 ∧ (∀ k, a < k → k < x2 → LOW (g d k)) ∧ vs = [.int .i64 x2] ∧ H1 = H') _ [.int .i64 i] rfl ⟨i, rfl, by omega, by omega, hLo, rfl, rfl⟩ ?_) ?_
    · rintro n' _ _ ⟨x2, rfl, h1, h2, hR, rfl, rfl⟩
      by_cases hij : x2 ≤ j
      · have hx := hrow.ld (i := x2) (by omega)
        have g1 : x2 < n := by omega
        refine L_regT mixed [0, 1, 4, 12, 13, 120] (by kernel_rfl) (fun K hK => ?_)
        simp [hij, g1, ga, hx, ha0, hCk.1]
        refine exC_mk (fun Q hQ => hCk.2 H1 (.refl _ _) _ _ (hdD x2 (by omega)) hdDa Q hQ) ?_
        simp [pickV]
        apply hK; clear hK K
        have hc := hlow (g d x2)
        by_cases hL : LOW (g d x2)
        · refine L_true (by first | simpa using hc.1 hL | simpa using hc.2 hL) ?_
          refine L_block ?_
          refine L_reg [0, 1, 4, 12, 13] (fun K hK => ?_)
          simp [wrap_i64 (a := (x2 : Int) + 1) (by omega)]
          apply hK; clear hK K
          refine ⟨j + 1 - (x2 + 1), [.int .i64 (x2 + 1 : Nat)], by omega, by simp, x2 + 1, rfl, by omega, by omega, fun k k1 k2 => ?_, rfl, rfl⟩
          by_cases k3 : k = x2
          · rw [k3]; exact hL
          · exact hR k k1 (by omega)
        · refine L_false (by first | simpa using hc.1 hL | simpa using hc.2 hL) (L_exit ?_)
          exact ⟨x2, _, h1, h2, hR, fun _ => hL, rfl, rfl⟩
      · refine L_regT mixed [0, 1, 4, 12, 13, 120] (by kernel_rfl) (fun K hK => ?_)
        simp [pickV, hij]
        apply hK; clear hK K
        refine L_false (by simp) (L_exit ?_)
        exact ⟨x2, _, h1, h2, hR, fun h => absurd h hij, rfl, rfl⟩
    rintro _ _ ⟨i3, vu, h1u, h2u, hRu, hsu, rfl, rfl⟩
    refine L_blockR (fun e' H' => ∃ (x2 : Nat) (v : AV), x2 ≤ j ∧ i3 ≤ x2 + 1 ∧ (∀ k, x2 < k → k < b → ¬ LOW (g d k)) ∧ (i3 ≤ x2 → LOW (g d x2)) ∧ e' = [(0, .slice (some r) 0 n ver 1 false), (1, .int .i64 a), (4, .func (.func f) [] caps), (12, .int .i64 (i3 : Nat)), (13, .int .i64 (x2 : Nat)), (120, vu), (139, v)] ∧ H1 = H') (L_loopV [13] (fun n' vs H' => ∃ x2 : Nat, n' = x2 + 1 - i3 ∧ x2 ≤ j ∧ i3 ≤ x2 + 1 ∧ (∀ k, x2 < k → k < b → ¬ LOW (g d k)) ∧ vs = [.int .i64 x2] ∧ H1 = H') _ [.int .i64 j] rfl ⟨j, rfl, by omega, by omega, hHi, rfl, rfl⟩ ?_) ?_
    · rintro n' _ _ ⟨x2, rfl, h1, h2, hR, rfl, rfl⟩
      by_cases hij : i3 ≤ x2
      · have hx := hrow.ld (i := x2) (by omega)
        have g1 : x2 < n := by omega
        refine L_regT mixed [0, 1, 4, 12, 13, 120, 139] (by kernel_rfl) (fun K hK => ?_)
        simp [hij, g1, ga, hx, ha0, hCk.1]
        refine exC_mk (fun Q hQ => hCk.2 H1 (.refl _ _) _ _ (hdD x2 (by omega)) hdDa Q hQ) ?_
        simp [pickV]
        apply hK; clear hK K
        have hc := hlow (g d x2)
        by_cases hL : LOW (g d x2)
        · refine L_false (by first | simpa using hc.1 hL | simpa using hc.2 hL) (L_exit ?_)
          exact ⟨x2, _, h1, h2, hR, fun _ => hL, rfl, rfl⟩
        · refine L_true (by first | simpa using hc.1 hL | simpa using hc.2 hL) ?_
          refine L_block ?_
          obtain ⟨x3, rfl⟩ : ∃ x3, x2 = x3 + 1 := ⟨x2 - 1, by omega⟩
          refine L_reg [0, 1, 4, 12, 13, 120] (fun K hK => ?_)
          simp [wrap_i64 (a := (x3 : Int)) (by omega)]
          apply hK; clear hK K
          refine ⟨x3 + 1 - i3, [.int .i64 (x3 : Nat)], by omega, by simp, x3, rfl, by omega, by omega, fun k k1 k2 => ?_, rfl, rfl⟩
          by_cases k3 : k = x3 + 1
          · rw [k3]; exact hL
          · exact hR k (by omega) k2
      · refine L_regT mixed [0, 1, 4, 12, 13, 120, 139] (by kernel_rfl) (fun K hK => ?_)
        simp [pickV, hij]
        apply hK; clear hK K
        refine L_false (by simp) (L_exit ?_)
        exact ⟨x2, _, h1, h2, hR, fun h => absurd h hij, rfl, rfl⟩
    rintro _ _ ⟨j3, vd, h1d, h2d, hRd, hsd, rfl, rfl⟩
    refine L_reg [0, 1, 4, 12, 13, 144] (fun K hK => ?_)
    simp
    apply hK; clear hK K
    refine L_dec (j3 < i3) (by simp) (fun hlt => L_exit ?_) (fun hge => ?_)
    · have e : i3 = j3 + 1 := by omega
      obtain ⟨f1, f2, f3⟩ := part_fin (_D := κ) hLd (by omega) (show a ≤ j3 by omega) (by omega) hS hpiv (by rw [← e]; exact hRu) hRd
      have hx := hrow.ld (i := j3) (by omega)
      obtain ⟨H4, H5, e1, e2, e3, e5⟩ := hrow.swap (i := j3) (j := a) (by omega) (by omega)
      rw [hpiv] at e1
      have g1 : j3 < n := by omega
      refine L_regT mixed [13] (by kernel_rfl) (fun K hK => ?_)
      simp [g1, ga, hx, ha0, e1, e2]
      apply hK; clear hK K
      refine L_reg [10, 11] (fun K hK => ?_)
      simp
      apply hK; clear hK K
      exact L_ret ⟨.inr rfl, _, rfl, h H5 _ j3 false (by omega) (by omega) f1 f2 f3 e3 (hK.trans e5)⟩
    · have hl1 := hsu (by omega)
      have hl2 := hsd (by omega)
      have hne : i3 ≠ j3 := by rintro rfl; exact hl1 hl2
      obtain ⟨j2, rfl⟩ : ∃ j2, j3 = j2 + 1 := ⟨j3 - 1, by omega⟩
      have hx := hrow.ld (i := i3) (by omega)
      have hy := hrow.ld (i := j2 + 1) (by omega)
      obtain ⟨H2, H3, e1, e2, e3, e4⟩ := hrow.swap (i := i3) (j := j2 + 1) (by omega) (by omega)
      have g1 : i3 < n := by omega
      have g2 : (j2 : Int) + 1 < n := by omega
      have g3 : (0 : Int) ≤ (j2 : Int) + 1 := by omega
      have g4 : ((j2 : Int) + 1).toNat = j2 + 1 := by omega
      refine L_regT mixed [0, 1, 4, 12, 13] (by kernel_rfl) (fun K hK => ?_)
      simp [g1, g2, g3, g4, hx, hy, e1, e2]
      apply hK; clear hK K
      refine L_reg [0, 1, 4, 12, 13] (fun K hK => ?_)
      simp [wrap_i64 (a := (i3 : Int) + 1) (by omega)]
      apply hK; clear hK K
      refine L_reg [0, 1, 4, 12, 13] (fun K hK => ?_)
      simp [wrap_i64 (a := (j2 : Int)) (by omega)]
      apply hK; clear hK K
      have w0 := sw_i (c := d) (i := i3) (j := j2 + 1) (by omega) (by omega)
      have w1 := sw_j (c := d) (i := i3) (j := j2 + 1) (by omega) (by omega)
      have w2 := fun (k : Nat) (k1 : k ≠ i3) (k2 : k ≠ j2 + 1) => sw_o (c := d) (i := i3) (j := j2 + 1) (by omega) (by omega) k1 k2
      refine ⟨j2 + 1 - (i3 + 1), [.int .i64 (i3 + 1 : Nat), .int .i64 j2], by omega, by simp, i3 + 1, j2, _, rfl, by omega, by omega, by omega, hS.trans (.swap (by omega) (by omega) (by omega)), by rw [w2 a (by omega) (by omega)]; exact hpiv, fun k k1 k2 => ?_, fun k k1 k2 => ?_, rfl, e3, hK.trans e4⟩
      · by_cases k3 : k = i3
        · rw [k3, w0]; exact hl2
        · rw [w2 k k3 (by omega)]; exact hRu k k1 (by omega)
      · by_cases k3 : k = j2 + 1
        · rw [k3, w1]; exact hl1
        · rw [w2 k (by omega) k3]; exact hRd k (by omega) k2
end Go.Proofs.Ytjfmiohgkcjdnaa

/- Sorting by a comparison: heaps. -/
namespace Go.Proofs.Ytjfmiohgkcjdnaa
open Go Go.Proofs.Ytjfmiohgkcjdnaa.AX

/-- What lies below place i is not greater. -/
def Hp (κ : Int → Int) (f hi : Nat) (d : List Int) (i : Nat) : Prop := ∀ c, c = 2 * i + 1 ∨ c = 2 * i + 2 → c < hi → κ (g d (f + c)) ≤ κ (g d (f + i))
theorem heap_max {κ : Int → Int} {f hi : Nat} {d : List Int} (h : ∀ i, Hp κ f hi d i) : ∀ p, p < hi → κ (g d (f + p)) ≤ κ (g d (f + 0)) := by
  intro p
  induction p using Nat.strongRecOn with
  | _ p ih =>
    intro hp
    by_cases h0 : p = 0
    · subst h0; exact Int.le_refl _
    · have h1 := h ((p - 1) / 2) p (by omega) hp
      have h2 := ih ((p - 1) / 2) (by omega) (by omega)
      omega
set_option maxRecDepth 100000 in
theorem siftDown_ac (f : FuncId) (caps : List AV) (D : Int → Prop) (κ : Int → Int) (r ver lo hi fi : Nat) (c : List Int) (H : AH) (Q : AV → AH → Prop) (hC : Cmp f caps D κ r H) (hr : Rw r ver H c) (hD : All D c) (hl : c.length ≤ 1000000) (hb : fi + hi ≤ c.length) (hlo : lo ≤ hi) (hH : ∀ i, lo < i → Hp κ fi hi c i)
    (h : ∀ (H' : AH) (m : List Int), Shuf (fi + lo) (fi + hi) c m → (∀ i, lo ≤ i → Hp κ fi hi m i) → Rw r ver H' m → KeepX r H H' → Q (.tuple []) H') : AC Try.prog 118 [.slice (some r) 0 c.length ver 1 false, .int .i64 lo, .int .i64 hi, .int .i64 fi, .func (.func f) [] caps] H Q := by
  refine L_body 82 Try.func118 rfl rfl ?_
  refine L_reg [0, 2, 3, 4, 10] (fun K hK => ?_)
  simp
  apply hK; clear hK K
  generalize hn : c.length = n at *
  refine L_block (L_loopV [10] (fun k vs H' => ∃ (ro : Nat) (d : List Int), k = hi - ro ∧ lo ≤ ro ∧ ro ≤ hi ∧ Shuf (fi + lo) (fi + hi) c d ∧ (∀ i, lo ≤ i → i ≠ ro → Hp κ fi hi d i) ∧ (∀ i, lo ≤ i → ro = 2 * i + 1 ∨ ro = 2 * i + 2 → ∀ q, q = 2 * ro + 1 ∨ q = 2 * ro + 2 → q < hi → κ (g d (fi + q)) ≤ κ (g d (fi + i))) ∧ vs = [.int .i64 ro] ∧ Rw r ver H' d ∧ KeepX r H H') _ [.int .i64 lo] rfl ⟨lo, c, rfl, by omega, by omega, .refl _ _ _, fun i h1 h2 => hH i (by omega), fun i h1 h2 => by omega, rfl, hr, .refl r H⟩ ?_)
  rintro _ _ H1 ⟨ro, d, rfl, hro, hroh, hS, h1, h2, rfl, hrow, hK⟩
  have hdl : d.length = n := by rw [hS.len]; exact hn
  have hdD := hD.perm hS.1
  have hCk := hC.keep hK
  refine L_block ?_
  obtain ⟨ch, hch⟩ : ∃ ch : Nat, 2 * (ro : Int) + 1 = ch := ⟨2 * ro + 1, by omega⟩
  refine L_reg [0, 2, 3, 4, 10, 11] (fun K hK => ?_)
  simp [wrap_i64 (a := 2 * (ro : Int)) (by omega), hch, wrap_i64 (a := (ch : Int)) (by omega)]
  apply hK; clear hK K
  refine L_reg [0, 2, 3, 4, 10, 11, 18] (fun K hK => ?_)
  simp
  apply hK; clear hK K
  refine L_dec (hi ≤ ch) (by simp) (fun hge => L_exit ?_) (fun hlt => ?_)
  · refine ⟨.inl rfl, _, rfl, h H1 d hS (fun i hi1 => ?_) hrow hK⟩
    by_cases e : i = ro
    · subst e; intro c hc hch; omega
    · exact h1 i hi1 e
  obtain ⟨ix, hix⟩ : ∃ ix : Nat, (fi : Int) + ch = ix := ⟨fi + ch, by omega⟩
  have hixn : ix = fi + ch := by omega
  refine L_regT mixed [0, 2, 3, 4, 10, 11, 40] (by kernel_rfl) (fun K hK0 => ?_)
  have hK2 : ∀ t : Bool, (t = true → ch + 1 < hi ∧ κ (g d (fi + ch)) < κ (g d (fi + (ch + 1)))) → (t = false → ch + 1 < hi → κ (g d (fi + (ch + 1))) ≤ κ (g d (fi + ch))) → K [(0, .slice (some r) 0 n ver 1 false), (2, .int .i64 hi), (3, .int .i64 fi), (4, .func (.func f) [] caps), (10, .int .i64 ro), (11, .int .i64 ch), (40, .bool t)] H1 := by
    intro t ht1 ht2
    refine hK0 _ _ ?_
    clear hK0 K
    refine L_condK [0, 2, 3, 4, 10, 11] (fun e' H' => ∃ c2 : Nat, (c2 = ch ∨ c2 = ch + 1) ∧ c2 < hi ∧ (∀ q, q = ch ∨ q = ch + 1 → q < hi → κ (g d (fi + q)) ≤ κ (g d (fi + c2))) ∧ e' = [(0, .slice (some r) 0 n ver 1 false), (2, .int .i64 hi), (3, .int .i64 fi), (4, .func (.func f) [] caps), (10, .int .i64 ro), (11, .int .i64 (c2 : Nat))] ∧ H1 = H') (t := t) rfl (fun ht => ?_) (fun ht => ?_) ?_
    · obtain ⟨g1, g2⟩ := ht1 ht
      refine L_reg [0, 2, 3, 4, 10, 11] (fun K hK => ?_)
      simp [wrap_i64 (a := (ch : Int) + 1) (by omega)]
      apply hK; clear hK K
      refine ⟨ch + 1, .inr rfl, g1, fun q hq1 hq2 => ?_, by simp, rfl⟩
      rcases hq1 with rfl | rfl <;> omega
    · refine ⟨ch, .inl rfl, by omega, fun q hq1 hq2 => ?_, by simp, rfl⟩
      rcases hq1 with rfl | rfl
      · omega
      · exact ht2 ht hq2
    · rintro _ _ ⟨c2, hc2, hc2h, hbig, rfl, rfl⟩
      clear ht1 ht2
      have hc2ro : c2 = 2 * ro + 1 ∨ c2 = 2 * ro + 2 := by omega
      obtain ⟨ia, hia⟩ : ∃ ix : Nat, (fi : Int) + ro = ix := ⟨fi + ro, by omega⟩
      obtain ⟨ib, hib⟩ : ∃ ix : Nat, (fi : Int) + c2 = ix := ⟨fi + c2, by omega⟩
      have hian : ia = fi + ro := by omega
      have hibn : ib = fi + c2 := by omega
      have hx := hrow.ld (i := ia) (by omega)
      have hy := hrow.ld (i := ib) (by omega)
      have ga : ia < n := by omega
      have gb : ib < n := by omega
      refine L_regT mixed [0, 2, 3, 4, 10, 11, 58] (by kernel_rfl) (fun K hK => ?_)
      simp [hia, hib, ga, gb, hx, hy, hCk.1, wrap_i64 (a := (ia : Int)) (by omega), wrap_i64 (a := (ib : Int)) (by omega)]
      refine exC_mk (fun Q hQ => hCk.2 H1 (.refl _ _) _ _ (hdD ia (by omega)) (hdD ib (by omega)) Q hQ) ?_
      simp
      apply hK; clear hK K
      by_cases hless : κ (g d ia) < κ (g d ib)
      · refine L_false (by simpa using cmpS_neg.2 hless) ?_
        obtain ⟨H2, H3, e1, e2, e3, e4⟩ := hrow.swap (i := ia) (j := ib) (by omega) (by omega)
        refine L_regT mixed [0, 2, 3, 4, 11] (by kernel_rfl) (fun K hK => ?_)
        simp [hia, hib, ga, gb, hx, hy, e1, e2, wrap_i64 (a := (ia : Int)) (by omega), wrap_i64 (a := (ib : Int)) (by omega)]
        apply hK; clear hK K
        refine L_reg [0, 2, 3, 4, 10] (fun K hK => ?_)
        simp
        apply hK; clear hK K
        have w0 := sw_i (c := d) (i := ia) (j := ib) (by omega) (by omega)
        have w1 := sw_j (c := d) (i := ia) (j := ib) (by omega) (by omega)
        have w2 := fun (k : Nat) (k1 : k ≠ ia) (k2 : k ≠ ib) => sw_o (c := d) (i := ia) (j := ib) (by omega) (by omega) k1 k2
        subst hian
        subst hibn
        have v0 : g (sw d (fi + ro) (fi + c2)) (fi + ro) = g d (fi + c2) := w0
        have v1 : g (sw d (fi + ro) (fi + c2)) (fi + c2) = g d (fi + ro) := w1
        have v2 : ∀ k, k ≠ ro → k ≠ c2 → g (sw d (fi + ro) (fi + c2)) (fi + k) = g d (fi + k) := fun k k1 k2 => w2 _ (by omega) (by omega)
        refine ⟨hi - c2, [.int .i64 (c2 : Nat)], by omega, by simp, c2, _, rfl, by omega, by omega, hS.trans (.swap (by omega) (by omega) (by omega)), fun i i1 i2 q q1 q2 => ?_, fun i i1 i2 q q1 q2 => ?_, rfl, e3, hK.trans e4⟩
        · by_cases e : i = ro
          · subst e
            rw [v0]
            by_cases q3 : q = c2
            · rw [q3, v1]; omega
            · rw [v2 q (by omega) q3]; exact hbig q (by omega) q2
          · have h3 := h1 i i1 e q q1 q2
            rw [v2 i e i2]
            by_cases q3 : q = ro
            · rw [q3, v0]; exact h2 i i1 (by omega) c2 hc2ro hc2h
            · rw [v2 q q3 (by omega)]; exact h3
        · have : i = ro := by omega
          subst this
          rw [v0, v2 q (by omega) (by omega)]
          exact h1 c2 (by omega) (by omega) q q1 q2
      · have hneg : ¬ cmpS (κ (g d ia)) (κ (g d ib)) < 0 := fun h => hless (cmpS_neg.1 h)
        refine L_true (by simpa using hneg) ?_
        refine L_ret ⟨.inr rfl, _, rfl, h H1 d hS (fun i hi1 => ?_) hrow hK⟩
        by_cases e : i = ro
        · subst e
          intro q q1 q2
          have := hbig q (by omega) q2
          rw [hian, hibn] at hless
          omega
        · exact h1 i hi1 e
  by_cases hc1 : ch + 1 < hi
  · have hx := hrow.ld (i := ix) (by omega)
    have hy := hrow.ld (i := ix + 1) (by omega)
    have g1 : ix < n := by omega
    have g2 : (ix : Int) + 1 < n := by omega
    have g3 : (0 : Int) ≤ (ix : Int) + 1 := by omega
    have g4 : ((ix : Int) + 1).toNat = ix + 1 := by omega
    have g5 : (ch : Int) + 1 < hi := by omega
    simp [hix, g1, g2, g3, g4, g5, hx, hy, hCk.1, wrap_i64 (a := (ch : Int) + 1) (by omega), wrap_i64 (a := (ix : Int)) (by omega), wrap_i64 (a := (ix : Int) + 1) (by omega)]
    refine exC_mk (fun Q hQ => hCk.2 H1 (.refl _ _) _ _ (hdD ix (by omega)) (hdD (ix + 1) (by omega)) Q hQ) ?_
    simp [pickV]
    refine hK2 _ (fun ht => ⟨hc1, ?_⟩) (fun ht _ => ?_)
    · have := cmpS_neg.1 (of_decide_eq_true ht)
      rw [hixn] at this; exact this
    · have : ¬ κ (g d ix) < κ (g d (ix + 1)) := fun h => (of_decide_eq_false ht) (cmpS_neg.2 h)
      rw [hixn] at this
      exact Int.not_lt.1 this
  · have g5 : ¬ (ch : Int) + 1 < hi := by omega
    simp [pickV, g5, wrap_i64 (a := (ch : Int) + 1) (by omega)]
    exact hK2 false (fun h => by cases h) (fun _ h => absurd h hc1)
end Go.Proofs.Ytjfmiohgkcjdnaa

/- Sorting by a comparison: by a heap. -/
namespace Go.Proofs.Ytjfmiohgkcjdnaa
open Go Go.Proofs.Ytjfmiohgkcjdnaa.AX

set_option maxRecDepth 100000 in
theorem heapSort_ac (f : FuncId) (caps : List AV) (D : Int → Prop) (κ : Int → Int) (r ver a l : Nat) (c : List Int) (H : AH) (Q : AV → AH → Prop) (hC : Cmp f caps D κ r H) (hr : Rw r ver H c) (hD : All D c) (hl : c.length ≤ 1000000) (hb : a + l ≤ c.length) (hl1 : 1 ≤ l)
    (h : ∀ (H' : AH) (m : List Int), Shuf a (a + l) c m → Srt κ a (a + l) m → Rw r ver H' m → KeepX r H H' → Q (.tuple []) H') : AC Try.prog 100 [.slice (some r) 0 c.length ver 1 false, .int .i64 a, .int .i64 (a + l : Nat), .func (.func f) [] caps] H Q := by
  refine L_body 60 Try.func100 rfl rfl ?_
  refine L_reg [0, 1, 2, 3, 8] (fun K hK => ?_)
  simp
  apply hK; clear hK K
  refine L_reg [0, 1, 2, 3, 8, 9] (fun K hK => ?_)
  simp
  apply hK; clear hK K
  refine L_reg [0, 3, 8, 9, 10] (fun K hK => ?_)
  simp [show ((a : Int) + l - a) = l by omega, wrap_i64 (a := (l : Int)) (by omega)]
  apply hK; clear hK K
  obtain ⟨l0, rfl⟩ : ∃ l0, l = l0 + 1 := ⟨l - 1, by omega⟩
  generalize hL : l0 + 1 = L at *
  have hdiv : ((l0 : Int)).tdiv 2 = ((l0 / 2 : Nat) : Int) := by rw [Int.tdiv_eq_ediv_of_nonneg (by omega)]; rfl
  obtain ⟨q, hq⟩ : ∃ q, q = l0 / 2 := ⟨_, rfl⟩
  rw [← hq] at hdiv
  have hL1 : (L : Int) - 1 = l0 := by omega
  refine L_reg [0, 3, 8, 9, 10, 11] (fun K hK => ?_)
  simp [hL1, hdiv, wrap_i64 (a := (l0 : Int)) (by omega), wrap_i64 (a := (q : Int)) (by omega)]
  apply hK; clear hK K
  generalize hn : c.length = n at *
  refine L_blockR (fun e' H' => ∃ (d : List Int) (v11 v21 : AV), Shuf a (a + L) c d ∧ (∀ i, Hp κ a L d i) ∧ Rw r ver H' d ∧ KeepX r H H' ∧ e' = [(0, .slice (some r) 0 n ver 1 false), (3, .func (.func f) [] caps), (8, .int .i64 a), (9, .int .i64 0), (10, .int .i64 L), (11, v11), (21, v21)]) (L_loopV [11] (fun k vs H' => ∃ d : List Int, k ≤ q + 1 ∧ Shuf a (a + L) c d ∧ (∀ i, k ≤ i → Hp κ a L d i) ∧ vs = [.int .i64 ((k : Int) - 1)] ∧ Rw r ver H' d ∧ KeepX r H H') (q + 1) [.int .i64 q] rfl ⟨c, by omega, .refl _ _ _, fun i hi q1 q2 q3 => by omega, by simp, hr, .refl r H⟩ ?_) ?_
  · rintro k _ H1 ⟨d, hk, hS, hH, rfl, hrow, hK⟩
    have hdl : d.length = n := by rw [hS.len]; exact hn
    cases k with
    | zero =>
      refine L_reg [0, 3, 8, 9, 10, 11, 21] (fun K hK => ?_)
      simp
      apply hK; clear hK K
      refine L_false (by simp) (L_exit ?_)
      exact ⟨d, _, _, hS, fun i => hH i (by omega), hrow, hK, rfl⟩
    | succ k =>
      have hk1 : (k : Int) + 1 - 1 = k := by omega
      refine L_reg [0, 3, 8, 9, 10, 11, 21] (fun K hK => ?_)
      simp
      apply hK; clear hK K
      refine L_true (by simp) ?_
      refine L_block ?_
      refine L_reg [0, 3, 8, 9, 10, 11] (fun K hK0 => ?_)
      simp [okFn_low]
      have := siftDown_ac f caps D κ r ver k L a d H1 (fun v H' => K [(0, .slice (some r) 0 n ver 1 false), (3, .func (.func f) [] caps), (8, .int .i64 a), (9, .int .i64 0), (10, .int .i64 L), (11, .int .i64 k)] H') (hC.keep hK) hrow (hD.perm hS.1) (by omega) (by omega) (by omega) (fun i hi => hH i (by omega)) (fun H2 m hS2 hH2 hr2 hK2 => ?_)
      · rw [hdl] at this; exact this
      apply hK0; clear hK0 K
      refine L_reg [0, 3, 8, 9, 10, 11] (fun K hK => ?_)
      simp [wrap_i64 (a := (k : Int) - 1) (by omega)]
      apply hK; clear hK K
      exact ⟨k, [.int .i64 ((k : Int) - 1)], by omega, by simp, m, by omega, hS.trans (hS2.wide (by omega) (by omega)), fun i hi => hH2 i hi, rfl, hr2, hK.trans hK2⟩
  rintro _ H1 ⟨d, v11, v21, hS, hH, hrow, hK, rfl⟩
  refine L_reg [0, 3, 8, 9, 12] (fun K hK => ?_)
  simp [hL1, wrap_i64 (a := (l0 : Int)) (by omega)]
  apply hK; clear hK K
  refine L_block (L_loopV [12] (fun k vs H' => ∃ d : List Int, k ≤ L ∧ Shuf a (a + L) c d ∧ (∀ i, Hp κ a k d i) ∧ (∀ p q, p < q → k ≤ q → q < L → κ (g d (a + p)) ≤ κ (g d (a + q))) ∧ vs = [.int .i64 ((k : Int) - 1)] ∧ Rw r ver H' d ∧ KeepX r H H') L [.int .i64 l0] rfl ⟨d, Nat.le_refl _, hS, hH, fun p q h1 h2 h3 => by omega, by rw [hL1], hrow, hK⟩ ?_)
  clear hS hH hrow hK d H1
  rintro k _ H1 ⟨d, hk, hS, hH, hT, rfl, hrow, hK⟩
  have hdl : d.length = n := by rw [hS.len]; exact hn
  cases k with
  | zero =>
    refine L_reg [0, 3, 8, 9, 12, 33] (fun K hK => ?_)
    simp
    apply hK; clear hK K
    refine L_false (by simp) (L_exit ?_)
    refine ⟨.inl rfl, _, rfl, h H1 d hS (fun p q h1 h2 h3 => ?_) hrow hK⟩
    have := hT (p - a) (q - a) (by omega) (by omega) (by omega)
    rw [show a + (p - a) = p by omega, show a + (q - a) = q by omega] at this
    exact this
  | succ k =>
    have hk1 : (k : Int) + 1 - 1 = k := by omega
    refine L_reg [0, 3, 8, 9, 12, 33] (fun K hK => ?_)
    simp
    apply hK; clear hK K
    refine L_true (by simp) ?_
    refine L_block ?_
    obtain ⟨ib, hib⟩ : ∃ ix : Nat, (a : Int) + k = ix := ⟨a + k, by omega⟩
    have hibn : ib = a + k := by omega
    have hx := hrow.ld (i := a) (by omega)
    have hy := hrow.ld (i := ib) (by omega)
    have ga : a < n := by omega
    have gb : ib < n := by omega
    obtain ⟨H2, H3, e1, e2, e3, e4⟩ := hrow.swap (i := a) (j := ib) (by omega) (by omega)
    refine L_regT mixed [0, 3, 8, 9, 12] (by kernel_rfl) (fun K hK => ?_)
    simp [hib, ga, gb, hx, hy, e1, e2, wrap_i64 (a := (ib : Int)) (by omega)]
    apply hK; clear hK K
    subst hibn
    have w0 := sw_i (c := d) (i := a) (j := a + k) (by omega) (by omega)
    have w1 := sw_j (c := d) (i := a) (j := a + k) (by omega) (by omega)
    have w2 := fun (k' : Nat) (k1 : k' ≠ a) (k2 : k' ≠ a + k) => sw_o (c := d) (i := a) (j := a + k) (by omega) (by omega) k1 k2
    have hmax := heap_max hH
    have hS3 : Shuf a (a + L) c (sw d a (a + k)) := hS.trans (.swap (by omega) (by omega) (by omega))
    have hl3 : (sw d a (a + k)).length = n := by rw [hS3.len]; exact hn
    have hK3 := hK.trans e4
    have hH3 : ∀ i, 0 < i → Hp κ a k (sw d a (a + k)) i := by
      intro i hi q' q1 q2
      rw [w2 _ (by omega) (by omega), w2 _ (by omega) (by omega)]
      exact hH i q' q1 (by omega)
    have hT3 : ∀ p q, p < q → k ≤ q → q < L → κ (g (sw d a (a + k)) (a + p)) ≤ κ (g (sw d a (a + k)) (a + q)) := by
      intro p q' h1 h2 h3
      by_cases e : q' = k
      · subst e
        rw [w1]
        by_cases e0 : p = 0
        · subst e0
          have := hmax q' (by omega)
          rw [Nat.add_zero] at *
          rw [w0]
          exact this
        · rw [w2 _ (by omega) (by omega)]
          exact hmax p (by omega)
      · rw [w2 (a + q') (by omega) (by omega)]
        by_cases e0 : p = 0
        · subst e0
          rw [Nat.add_zero, w0]
          exact hT k q' (by omega) (by omega) h3
        · by_cases e1 : p = k
          · subst e1
            rw [w1]
            exact hT 0 q' (by omega) (by omega) h3
          · rw [w2 (a + p) (by omega) (by omega)]
            exact hT p q' h1 (by omega) h3
    refine L_reg [0, 3, 8, 9, 12] (fun K hK0 => ?_)
    simp [okFn_low]
    have := siftDown_ac f caps D κ r ver 0 k a (sw d a (a + k)) H3 (fun v H' => K [(0, .slice (some r) 0 n ver 1 false), (3, .func (.func f) [] caps), (8, .int .i64 a), (9, .int .i64 0), (12, .int .i64 k)] H') (hC.keep hK3) e3 (hD.perm hS3.1) (by omega) (by omega) (by omega) hH3 (fun H4 m hS4 hH4 hr4 hK4 => ?_)
    · rw [hl3] at this; exact this
    apply hK0; clear hK0 K
    refine L_reg [0, 3, 8, 9, 12] (fun K hK => ?_)
    simp [wrap_i64 (a := (k : Int) - 1) (by omega)]
    apply hK; clear hK K
    refine ⟨k, [.int .i64 ((k : Int) - 1)], by omega, by simp, m, by omega, hS3.trans (hS4.wide (by omega) (by omega)), fun i => hH4 i (by omega), fun p q' h1 h2 h3 => ?_, rfl, hr4, hK3.trans hK4⟩
    rw [hS4.2 (a + q') (by omega)]
    by_cases hp : p < k
    · have := hS4.all (by omega) (p := fun x => κ x ≤ κ (g (sw d a (a + k)) (a + q'))) (fun k' h4 h5 => by
        have := hT3 (k' - a) q' (by omega) h2 h3
        rw [show a + (k' - a) = k' by omega] at this
        exact this) (a + p) (by omega) (by omega)
      exact this
    · rw [hS4.2 (a + p) (by omega)]
      exact hT3 p q' h1 h2 h3
end Go.Proofs.Ytjfmiohgkcjdnaa

/- Sorting by a comparison: patterns are broken. -/
namespace Go.Proofs.Ytjfmiohgkcjdnaa
open Go Go.Proofs.Ytjfmiohgkcjdnaa.AX

def lenN (n : Nat) : Nat := if n < 1 then 0 else if n < 2 then 1 else if n < 4 then 2 else if n < 8 then 3 else if n < 16 then 4 else if n < 32 then 5 else if n < 64 then 6 else 7
theorem len_all : (List.range 128).all (fun s => match callN (runZ cx 300) 94 [.int .u64 (.ofNat s)] [] with | some (.int .i64 m, []) => ieq m (.ofNat (lenN s)) | _ => false) = true := by kernel_rfl
theorem Len_ac (n : Nat) (H : AH) (Q : AV → AH → Prop) (hn : n < 128) (h : Q (.int .i64 (lenN n)) H) : AC Try.prog 94 [.int .u64 n] H Q := by
  have := List.all_eq_true.1 len_all n (List.mem_range.2 hn)
  split at this
  · rename_i m hr
    rw [ieq_eq, beq_iff_eq] at this
    subst this
    exact AC_kernZ cx_ok 300 hr (.cons (.int _ _) .nil) (.int _ _) h
  · cases this
theorem pow_len {n : Nat} (h1 : 1 ≤ n) (h2 : n < 128) : 2 ^ lenN n ≤ 2 * n ∧ 1 ≤ 2 ^ lenN n ∧ lenN n ≤ 7 := by
  unfold lenN
  repeat' split
  all_goals omega
@[simp] theorem cv3101 (n : Nat) (hn : n ≤ 1000000) : aConv Try.prog 3 101 (.int .i64 n) = some (.int .u64 n) := by
  rw [cv_int (by kernel_rfl) (by kernel_rfl) n, wrap_u64 (by omega)]
theorem cv1013 (n : Nat) (hn : n ≤ 1000000) : aConv Try.prog 101 3 (.int .u64 n) = some (.int .i64 n) := by
  rw [cv_int (by kernel_rfl) (by kernel_rfl) n, wrap_i64 (by omega)]
theorem cv3121 (n : Nat) (hn : n ≤ 1000000) : aConv Try.prog 3 121 (.int .i64 n) = some (.int .u64 n) := by
  rw [cv_int (by kernel_rfl) (by kernel_rfl) n, wrap_u64 (by omega)]
theorem nextPow_ac (n : Nat) (H : AH) (Q : AV → AH → Prop) (h1 : 1 ≤ n) (hn : n < 128) (h : Q (.int .u64 (2 ^ lenN n : Nat)) H) : AC Try.prog 119 [.int .i64 n] H Q := by
  refine L_body 7 Try.func119 rfl rfl ?_
  refine L_reg [0] (fun K hK => ?_)
  simp
  apply hK; clear hK K
  have := pow_len h1 hn
  refine L_reg [2] (fun K hK => ?_)
  simp [okFn_low, cv3101 n (by omega)]
  refine Len_ac n H _ hn ?_
  simp [n_shl64' (lenN n) (by omega)]
  apply hK; clear hK K
  exact L_ret ⟨.inr rfl, _, rfl, by simpa using h⟩
theorem sc121 : scal Try.prog 121 = true := by kernel_rfl
theorem zt121 : zeroT Try.prog 121 = some [.int .u64 0] := by kernel_rfl
@[simp] theorem ld121 (H : AH) (r off ver : Nat) : loadV Try.prog 121 H (.ptr r off ver) = ld H r off ver := ld_sc sc121 ..
theorem st121 {H : AH} {p s : Nat} {x : Int} (h : H[p]? = some (.row [.int .u64 x] 0 s false)) (z : Int) : storeV Try.prog 121 H (.ptr p 0 0) (.int .u64 z) = some (none, H.set p (.row [.int .u64 z] 0 0 false)) := by
  have := store_row (P := Try.prog) (u := 121) (p := 0) sc121 (x := .int .u64 z) (y := .int .u64 x) rfl h rfl
  simpa using this
theorem next_ac (p s : Nat) (x : Int) (H : AH) (Q : AV → AH → Prop) (hr : H[p]? = some (.row [.int .u64 x] 0 s false)) (h : ∀ (y : Int) (H' : AH), H'[p]? = some (.row [.int .u64 y] 0 0 false) → KeepX p H H' → Q (.int .u64 y) H') : AC Try.prog 120 [.ptr p 0 0] H Q := by
  refine L_body 33 Try.func120 rfl rfl ?_
  have e1 : ld H p 0 0 = some (.int .u64 x) := by rw [ld_row hr]; rfl
  refine L_reg [0] (fun K hK => ?_)
  simp
  apply hK; clear hK K
  refine L_regT mixed [0] (by kernel_rfl) (fun K hK => ?_)
  simp [aNil, e1, st121 hr]
  apply hK; clear hK K
  generalize IntKind.u64.wrap _ = y1
  have r1 := get_set (o' := AObj.row [.int .u64 y1] 0 0 false) hr
  have k1 := (KeepX.refl p H).set (AObj.row [.int .u64 y1] 0 0 false)
  generalize H.set p (AObj.row [.int .u64 y1] 0 0 false) = H1 at r1 k1 ⊢
  have e2 : ld H1 p 0 0 = some (.int .u64 y1) := by rw [ld_row r1]; rfl
  refine L_regT mixed [0] (by kernel_rfl) (fun K hK => ?_)
  simp [aNil, e2, st121 r1]
  apply hK; clear hK K
  generalize IntKind.u64.wrap _ = y2
  have r2 := get_set (o' := AObj.row [.int .u64 y2] 0 0 false) r1
  have k2 := k1.set (AObj.row [.int .u64 y2] 0 0 false)
  generalize H1.set p (AObj.row [.int .u64 y2] 0 0 false) = H2 at r2 k2 ⊢
  have e3 : ld H2 p 0 0 = some (.int .u64 y2) := by rw [ld_row r2]; rfl
  refine L_regT mixed [0] (by kernel_rfl) (fun K hK => ?_)
  simp [aNil, e3, st121 r2]
  apply hK; clear hK K
  generalize IntKind.u64.wrap _ = y3
  have r3 := get_set (o' := AObj.row [.int .u64 y3] 0 0 false) r2
  have k3 := k2.set (AObj.row [.int .u64 y3] 0 0 false)
  generalize H2.set p (AObj.row [.int .u64 y3] 0 0 false) = H3 at r3 k3 ⊢
  have e4 : ld H3 p 0 0 = some (.int .u64 y3) := by rw [ld_row r3]; rfl
  refine L_reg [2] (fun K hK => ?_)
  simp [aNil, e4]
  apply hK; clear hK K
  exact L_ret ⟨.inr rfl, _, rfl, h _ _ r3 k3⟩
theorem and_low {P : Program} {t : TypeId} {l : Bool} (y : Int) (m : Nat) (_hm : m ≤ 1000000) : ∃ z : Nat, z ≤ m ∧ binV P .and t l (.int .u64 y) (.int .u64 (m : Int)) = some (.int .u64 (z : Nat)) := by
  refine ⟨(BitVec.ofInt 64 y &&& BitVec.ofInt 64 (m : Int)).toNat, ?_, ?_⟩
  · rw [BitVec.toNat_and]
    refine Nat.le_trans Nat.and_le_right ?_
    rw [ofInt_nat, BitVec.toNat_ofNat]
    exact Nat.mod_le _ _
  · rw [b_and]
    congr 2
    exact wrapN64 (BitVec.isLt _)
set_option maxRecDepth 100000 in
theorem break_ac (cv : AV) (r ver a l : Nat) (c : List Int) (H : AH) (Q : AV → AH → Prop) (hr : Rw r ver H c) (hrl : r < H.length) (hlen : c.length ≤ 127) (hl : 12 < l) (hb : a + l ≤ c.length)
    (h : ∀ (H' : AH) (m : List Int), Shuf a (a + l) c m → Rw r ver H' m → KeepX r H H' → Q (.tuple []) H') : AC Try.prog 101 [.slice (some r) 0 c.length ver 1 false, .int .i64 a, .int .i64 (a + l : Nat), cv] H Q := by
  refine L_body 67 Try.func101 rfl rfl ?_
  have hq : ((l : Int)).tdiv 4 = ((l / 4 : Nat) : Int) := by rw [Int.tdiv_eq_ediv_of_nonneg (by omega)]; rfl
  obtain ⟨q, hq0⟩ : ∃ q, q = l / 4 := ⟨_, rfl⟩
  rw [← hq0] at hq
  obtain ⟨j0, hj0⟩ : ∃ i : Nat, (a : Int) + (q : Int) * 2 = i := ⟨a + q * 2, by omega⟩
  obtain ⟨i0, hi0⟩ : ∃ i : Nat, (j0 : Int) - 1 = i := ⟨j0 - 1, by omega⟩
  generalize hn : c.length = n at *
  refine L_reg [0, 1, 8] (fun K hK => ?_)
  simp [show ((a : Int) + l - a) = l by omega, wrap_i64 (a := (l : Int)) (by omega)]
  apply hK; clear hK K
  refine L_reg [0, 1, 8, 17] (fun K hK => ?_)
  simp
  apply hK; clear hK K
  refine L_true (by simp; omega) ?_
  have hsv : ∀ x : Int, storeV Try.prog 121 (H ++ [AObj.row [.int .u64 0] 0 0 false]) (.ptr H.length 0 0) (.int .u64 x) = some (none, H ++ [.row [.int .u64 x] 0 0 false]) := fun x => store_last sc121 (y := .int .u64 0) rfl rfl
  refine L_reg [0, 1, 8, 9] (fun K hK => ?_)
  simp [cv3121 l (by omega), alloc_z zt121, hsv]
  apply hK; clear hK K
  have hK1 : KeepX r H (H ++ [AObj.row [.int .u64 l] 0 0 false]) := (KeepX.refl r H).ext (.push _ _)
  have hr1 := hr.ext (.push H [AObj.row [.int .u64 l] 0 0 false])
  have hx1 : (H ++ [AObj.row [.int .u64 l] 0 0 false])[H.length]? = some (.row [.int .u64 l] 0 0 false) := by simp
  generalize H ++ [AObj.row [.int .u64 l] 0 0 false] = H1 at hK1 hr1 hx1 ⊢
  generalize hp : H.length = p at *
  have hpl := pow_len (n := l) (by omega) (by omega)
  refine L_reg [0, 1, 8, 9, 10] (fun K hK => ?_)
  simp [okFn_low]
  refine nextPow_ac l H1 _ (by omega) (by omega) ?_
  generalize 2 ^ lenN l = md at hpl ⊢
  simp
  apply hK; clear hK K
  refine L_reg [0, 1, 8, 9, 10, 11] (fun K hK => ?_)
  simp [hq, wrap_i64 (a := (q : Int)) (by omega), wrap_i64 (a := (q : Int) * 2) (by omega), hj0, wrap_i64 (a := (j0 : Int)) (by omega), hi0, wrap_i64 (a := (i0 : Int)) (by omega)]
  apply hK; clear hK K
  refine L_block (L_loopV [11] (fun k vs H' => ∃ (i : Nat) (d : List Int) (x : Int) (s : Nat), k = j0 + 2 - i ∧ i0 ≤ i ∧ i ≤ j0 + 2 ∧ Shuf a (a + l) c d ∧ vs = [.int .i64 i] ∧ Rw r ver H' d ∧ KeepX r H H' ∧ H'[p]? = some (.row [.int .u64 x] 0 s false)) _ [.int .i64 i0] rfl ⟨i0, c, l, 0, rfl, by omega, by omega, .refl _ _ _, rfl, hr1, hK1, hx1⟩ ?_)
  clear hr1 hK1 hx1 H1
  rintro k _ H1 ⟨i, d, x, s, rfl, hi1, hi2, hS, rfl, hrow, hK, hx⟩
  have hdl : d.length = n := by rw [hS.len]; exact hn
  refine L_reg [0, 1, 8, 9, 10, 11, 35] (fun K hK => ?_)
  simp [hq, wrap_i64 (a := (q : Int)) (by omega), wrap_i64 (a := (q : Int) * 2) (by omega), hj0, wrap_i64 (a := (j0 : Int)) (by omega), wrap_i64 (a := (j0 : Int) + 1) (by omega)]
  apply hK; clear hK K
  refine L_dec ((i : Int) ≤ j0 + 1) (by simp) (fun hlt => ?_) (fun hge => L_exit ?_)
  · refine L_block ?_
    refine L_reg [0, 1, 8, 9, 10, 11, 12] (fun K hK0 => ?_)
    simp [okFn_low]
    refine next_ac p s x H1 _ hx (fun y H2 hy hK2 => ?_)
    have hmd : IntKind.u64.wrap ((md : Int) - 1) = ((md - 1 : Nat) : Int) := by rw [wrap_u64 (by omega)]; omega
    obtain ⟨m1, hm1⟩ : ∃ m1 : Nat, md - 1 = m1 := ⟨_, rfl⟩
    rw [hm1] at hmd
    obtain ⟨z, hz, hand⟩ := and_low (P := Try.prog) (t := 101) (l := (litOp (.tmp 38) || litOp (.tmp 40))) y m1 (by omega)
    simp [hmd, hand, cv1013 z (by omega)]
    apply hK0; clear hK0 K
    have hrow2 : Rw r ver H2 d := by
      obtain ⟨s', h'⟩ := hrow
      exact ⟨s', hK2.row (by omega) h'⟩
    have hK12 : KeepX r H H2 := ⟨Nat.le_trans hK.1 hK2.1, fun j j1 j2 => by rw [hK2.2 j (by omega) (by have := hK.1; omega), hK.2 j j1 j2]⟩
    refine L_reg [0, 1, 8, 9, 10, 11, 12, 45] (fun K hK => ?_)
    simp
    apply hK; clear hK K
    refine L_condK [0, 1, 8, 9, 10, 11, 12] (fun e' H' => ∃ o : Nat, o < l ∧ e' = [(0, .slice (some r) 0 n ver 1 false), (1, .int .i64 a), (8, .int .i64 l), (9, .ptr p 0 0), (10, .int .u64 md), (11, .int .i64 i), (12, .int .i64 (o : Nat))] ∧ H2 = H') (t := decide (l ≤ z)) (by simp) (fun ht => ?_) (fun ht => ?_) ?_
    · have hle : l ≤ z := of_decide_eq_true ht
      obtain ⟨o, ho⟩ : ∃ o : Nat, (z : Int) - l = o := ⟨z - l, by omega⟩
      refine L_reg [0, 1, 8, 9, 10, 11, 12] (fun K hK => ?_)
      simp [ho, wrap_i64 (a := (o : Int)) (by omega)]
      apply hK; clear hK K
      exact ⟨o, by omega, by simp, rfl⟩
    · exact ⟨z, by have := of_decide_eq_false ht; omega, by simp, rfl⟩
    rintro _ _ ⟨o, hol, rfl, rfl⟩
    obtain ⟨ib, hib⟩ : ∃ ix : Nat, (a : Int) + o = ix := ⟨a + o, by omega⟩
    have h1 := hrow2.ld (i := i) (by omega)
    have h2 := hrow2.ld (i := ib) (by omega)
    have ga : i < n := by omega
    have gb : ib < n := by omega
    obtain ⟨H3, H4, e1, e2, e3, e4⟩ := hrow2.swap (i := i) (j := ib) (by omega) (by omega)
    refine L_regT mixed [0, 1, 8, 9, 10, 11] (by kernel_rfl) (fun K hK => ?_)
    simp [hib, ga, gb, h1, h2, e1, e2, wrap_i64 (a := (ib : Int)) (by omega)]
    apply hK; clear hK K
    refine L_reg [0, 1, 8, 9, 10, 11] (fun K hK => ?_)
    simp [wrap_i64 (a := (i : Int) + 1) (by omega)]
    apply hK; clear hK K
    exact ⟨j0 + 2 - (i + 1), [.int .i64 (i + 1 : Nat)], by omega, by simp, i + 1, _, y, 0, rfl, by omega, by omega, hS.trans (.swap (by omega) (by omega) (by omega)), rfl, e3, hK12.trans e4, e4.row (by omega) hy⟩
  · exact ⟨.inl rfl, _, rfl, h H1 d hS hrow hK⟩
end Go.Proofs.Ytjfmiohgkcjdnaa
