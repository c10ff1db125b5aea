/- Sorting numbers (Pdq). -/
import Derived.Test.YtcidcihpkdoejaaOPins
namespace Go.Proofs.Ytcidcihpkdoejaa.Ord
open Go Go.Proofs.Ytcidcihpkdoejaa.AX Go.Proofs.Ytcidcihpkdoejaa
variable {sb : Bool} {tl : List AV}

set_option maxRecDepth 100000 in
theorem pivot_ac' (D : Int → Prop) (κ : Int → Int) (r ver a b l : Nat) (hbl : b = a + l) (c : List Int) (n : Nat) (hn : c.length = n) (H : AH) (Q : AV → AH → Prop) (hC : CmpO D κ r H) (hr : Rw tl r ver H c) (hrl : r < H.length) (hD : All D c) (hlen : n ≤ 1000000) (hl : 12 < l) (hb : b ≤ n)
    (h : ∀ (H' : AH) (x : Nat) (hint : Int), a ≤ x ∧ x < b → KeepX r H H' → Rw tl r ver H' c → Q (.tuple [.int .i64 x, .int .i64 hint]) H') : AC Try.prog 96 [SV sb r 0 n ver, .int .i64 a, .int .i64 b] H Q := by
  subst hbl; subst hn; exact pivot_ac D κ r ver a l c H Q hC hr hrl hD hlen hl hb h
set_option maxRecDepth 100000 in
theorem break_ac' (r ver a b l : Nat) (hbl : b = a + l) (c : List Int) (n : Nat) (hn : c.length = n) (H : AH) (Q : AV → AH → Prop) (hr : Rw tl r ver H c) (hrl : r < H.length) (hlen : n ≤ 127) (hl : 12 < l) (hb : b ≤ n)
    (h : ∀ (H' : AH) (m : List Int), Shuf a b c m → Rw tl r ver H' m → KeepX r H H' → Q (.tuple []) H') : AC Try.prog 95 [SV sb r 0 n ver, .int .i64 a, .int .i64 b] H Q := by
  subst hbl; subst hn; exact break_ac r ver a l c H Q hr hrl hlen hl hb h
set_option maxRecDepth 100000 in
theorem heapSort_ac' (D : Int → Prop) (κ : Int → Int) (r ver a b l : Nat) (hbl : b = a + l) (c : List Int) (n : Nat) (hn : c.length = n) (H : AH) (Q : AV → AH → Prop) (hC : CmpO D κ r H) (hr : Rw tl r ver H c) (hD : All D c) (hl : n ≤ 1000000) (hb : b ≤ n) (hl1 : 1 ≤ l)
    (h : ∀ (H' : AH) (m : List Int), Shuf a b c m → Srt κ a b m → Rw tl r ver H' m → KeepX r H H' → Q (.tuple []) H') : AC Try.prog 94 [SV sb r 0 n ver, .int .i64 a, .int .i64 b] H Q := by
  subst hbl; subst hn; exact heapSort_ac D κ r ver a l c H Q hC hr hD hl hb hl1 h
set_option maxRecDepth 100000 in
theorem partEq_ac' (D : Int → Prop) (κ : Int → Int) (r ver a b pv : Nat) (c : List Int) (n : Nat) (hn : c.length = n) (H : AH) (Q : AV → AH → Prop) (hC : CmpO D κ r H) (hr : Rw tl r ver H c) (hD : All D c) (hl : n ≤ 1000000) (hpa : a ≤ pv) (hpb : pv < b) (hb : b ≤ n)
    (h : ∀ (H' : AH) (m : List Int) (p : Nat), a < p → p ≤ b → Shuf a b c m → (∀ k, a ≤ k → k < p → κ (g m k) ≤ κ (g c pv)) → (∀ k, p ≤ k → k < b → κ (g c pv) < κ (g m k)) → Rw tl r ver H' m → KeepX r H H' → Q (.int .i64 p) H') : AC Try.prog 100 [SV sb r 0 n ver, .int .i64 a, .int .i64 b, .int .i64 pv] H Q := by
  subst hn; exact partEq_ac D κ r ver a b pv c H Q hC hr hD hl hpa hpb hb h
set_option maxRecDepth 100000 in
theorem part_ac' (D : Int → Prop) (κ : Int → Int) (r ver a b pv : Nat) (c : List Int) (n : Nat) (hn : c.length = n) (H : AH) (Q : AV → AH → Prop) (hC : CmpO D κ r H) (hr : Rw tl r ver H c) (hD : All D c) (hl : n ≤ 1000000) (hpa : a ≤ pv) (hpb : pv < b) (hb : b ≤ n)
    (h : ∀ (H' : AH) (m : List Int) (p : Nat) (bb : Bool), a ≤ p → p < b → Shuf a b c m → (∀ k, a ≤ k → k < p → κ (g m k) ≤ κ (g m p)) → (∀ k, p < k → k < b → κ (g m p) ≤ κ (g m k)) → Rw tl r ver H' m → KeepX r H H' → Q (.tuple [.int .i64 p, .bool bb]) H') : AC Try.prog 101 [SV sb r 0 n ver, .int .i64 a, .int .i64 b, .int .i64 pv] H Q := by
  subst hn; exact part_ac D κ r ver a b pv c H Q hC hr hD hl hpa hpb hb h
set_option maxRecDepth 100000 in
theorem pdq_ac (D : Int → Prop) (κ : Int → Int) (r ver n : Nat) (hn127 : n ≤ 127) : ∀ (N a b lim : Nat) (c : List Int) (H : AH) (Q : AV → AH → Prop), b - a < N → CmpO D κ r H → Rw tl r ver H c → r < H.length → All D c → c.length = n → a ≤ b → b ≤ n → lim ≤ 1000 → Pre κ a b c →
    (∀ (H' : AH) (m : List Int), Shuf a b c m → Srt κ a b m → Rw tl r ver H' m → KeepX r H H' → Q (.tuple []) H') → AC Try.prog 87 [SV sb r 0 n ver, .int .i64 a, .int .i64 b, .int .i64 lim] H Q := by
  intro N
  induction N with
  | zero => intro a b lim c H Q h; omega
  | succ N ih =>
  intro a b lim c H Q hN hC hr hrl hD hn hab hb hlim hpre h
  refine L_body 134 Try.func87 rfl rfl ?_
  refine L_reg [0, 1, 2, 3, 8] (fun K hK => ?_)
  simp
  apply hK; clear hK K
  refine L_reg [0, 1, 2, 3, 8, 9] (fun K hK => ?_)
  simp
  apply hK; clear hK K
  refine L_block (L_loopV [1, 2, 3, 8, 9] (fun k vs H' => ∃ (a' b' lm : Nat) (wb wp : Bool) (d : List Int), k = b' - a' ∧ a ≤ a' ∧ a' ≤ b' ∧ b' ≤ b ∧ lm ≤ 1000 ∧ Shuf a b c d ∧ OrdEx κ a b a' b' d ∧ Pre κ a' b' d ∧ vs = [.int .i64 a', .int .i64 b', .int .i64 lm, .bool wb, .bool wp] ∧ Rw tl r ver H' d ∧ KeepX r H H') _ [.int .i64 a, .int .i64 b, .int .i64 lim, .bool true, .bool true] rfl ⟨a, b, lim, true, true, c, rfl, by omega, hab, by omega, hlim, .refl _ _ _, fun p q h1 h2 h3 h4 => by omega, hpre, rfl, hr, .refl r H⟩ ?_)
  rintro _ _ H1 ⟨a', b', lm, wb, wp, d, rfl, haa, hab', hbb, hlm, hS, hO, hP, rfl, hrow, hK⟩
  refine L_block ?_
  obtain ⟨l, hbl⟩ : ∃ l, b' = a' + l := ⟨b' - a', by omega⟩
  have hdl : d.length = n := by rw [hS.len]; exact hn
  have hdD := hD.perm hS.1
  have hCk := hC.keep hK
  have hr1 : r < H1.length := by have := hK.1; omega
  refine L_reg [0, 1, 2, 3, 8, 9, 10] (fun K hK => ?_)
  simp [show ((b' : Int) - a') = l by omega, wrap_i64 (a := (l : Int)) (by omega)]
  apply hK; clear hK K
  refine L_reg [0, 1, 2, 3, 8, 9, 10, 23] (fun K hK => ?_)
  simp
  apply hK; clear hK K
  refine L_dec ((l : Int) ≤ 12) (by simp) (fun h12 => ?_) (fun h12 => ?_)
  · refine L_reg [] (fun K hK0 => ?_)
    simp [okFn_low]
    have := insertion_ac (sb := sb) D κ r ver a' b' d H1 (fun v H' => K [] H') hCk hrow hdD (by omega) (by omega) (by omega) (fun H2 m m1 m2 m3 m4 => ?_)
    · rw [hdl] at this; exact this
    apply hK0; clear hK0 K
    exact L_ret ⟨.inr rfl, _, rfl, h H2 m (hS.trans (m1.wide haa hbb)) ((hO.mix m1 (by omega) haa hbb).srt m2) m3 (hK.trans m4)⟩
  refine L_reg [0, 1, 2, 3, 8, 9, 10, 29] (fun K hK => ?_)
  simp
  apply hK; clear hK K
  refine L_split rfl (fun h0 => ?_) (fun h0 => ?_)
  · refine L_reg [] (fun K hK0 => ?_)
    simp [okFn_low]
    refine heapSort_ac' D κ r ver a' b' l hbl d n hdl H1 _ hCk hrow hdD (by omega) (by omega) (by omega) (fun H2 m m1 m2 m3 m4 => ?_)
    simp
    apply hK0; clear hK0 K
    exact L_ret ⟨.inr rfl, _, rfl, h H2 m (hS.trans (m1.wide haa hbb)) ((hO.mix m1 (by omega) haa hbb).srt m2) m3 (hK.trans m4)⟩
  have hlm0 : 1 ≤ lm := by
    have : (lm : Int) ≠ 0 := by simpa using h0
    omega
  refine L_reg [0, 1, 2, 3, 8, 9, 10, 35] (fun K hK => ?_)
  simp
  apply hK; clear hK K
  refine L_condK [0, 1, 2, 3, 8, 9, 10] (fun e' H' => ∃ (lm : Nat) (d : List Int), lm ≤ 1000 ∧ Shuf a b c d ∧ OrdEx κ a b a' b' d ∧ Pre κ a' b' d ∧ Rw tl r ver H' d ∧ KeepX r H H' ∧ e' = [(0, SV sb r 0 n ver), (1, .int .i64 a'), (2, .int .i64 b'), (3, .int .i64 (lm : Nat)), (8, .bool wb), (9, .bool wp), (10, .int .i64 l)]) (t := !wb) rfl (fun ht => ?_) (fun ht => ?_) ?_
  · refine L_reg [0, 1, 2, 3, 8, 9, 10] (fun K hK0 => ?_)
    simp [okFn_low]
    refine break_ac' r ver a' b' l hbl d n hdl H1 _ hrow hr1 hn127 (by omega) (by omega) (fun H2 m m1 m3 m4 => ?_)
    simp
    apply hK0; clear hK0 K
    obtain ⟨lm', rfl⟩ : ∃ x, lm = x + 1 := ⟨lm - 1, by omega⟩
    refine L_reg [0, 1, 2, 3, 8, 9, 10] (fun K hK => ?_)
    simp [wrap_i64 (a := (lm' : Int)) (by omega)]
    apply hK; clear hK K
    exact ⟨lm', m, by omega, hS.trans (m1.wide haa hbb), hO.mix m1 (by omega) haa hbb, hP.mix m1 (by omega), m3, hK.trans m4, by simp⟩
  · exact ⟨lm, d, hlm, hS, hO, hP, hrow, hK, by simp⟩
  clear hlm hS hO hP hrow hK hdl hdD hCk hr1 hlm0 h0
  clear d H1 lm
  rintro _ H1 ⟨lm, d, hlm, hS, hO, hP, hrow, hK, rfl⟩
  have hdl : d.length = n := by rw [hS.len]; exact hn
  have hdD := hD.perm hS.1
  have hr1 : r < H1.length := by have := hK.1; omega
  refine L_reg [0, 1, 2, 3, 8, 9, 10, 11, 12] (fun K hK0 => ?_)
  simp [okFn_low]
  refine pivot_ac' D κ r ver a' b' l hbl d n hdl H1 _ (hC.keep hK) hrow hr1 hdD (by omega) (by omega) (by omega) (fun H2 pv hint hpv m4 m3 => ?_)
  simp
  apply hK0; clear hK0 K
  have hK2 := hK.trans m4
  clear hrow hK hr1
  refine L_reg [0, 1, 2, 3, 8, 9, 10, 11, 12, 50] (fun K hK => ?_)
  simp
  apply hK; clear hK K
  refine L_condK [0, 1, 2, 3, 8, 9, 10, 11, 12] (fun e' H' => ∃ (pv : Nat) (hint : Int) (d : List Int), (a' ≤ pv ∧ pv < b') ∧ Shuf a b c d ∧ OrdEx κ a b a' b' d ∧ Pre κ a' b' d ∧ Rw tl r ver H' d ∧ KeepX r H H' ∧ e' = [(0, SV sb r 0 n ver), (1, .int .i64 a'), (2, .int .i64 b'), (3, .int .i64 lm), (8, .bool wb), (9, .bool wp), (10, .int .i64 l), (11, .int .i64 (pv : Nat)), (12, .int .i64 hint)]) (t := (hint == 2)) rfl (fun ht => ?_) (fun ht => ?_) ?_
  · refine L_reg [0, 1, 2, 3, 8, 9, 10, 11] (fun K hK0 => ?_)
    simp [okFn_low]
    have := reverse_ac (sb := sb) r ver a' b' d H2 (fun v H' => K [(0, SV sb r 0 n ver), (1, .int .i64 a'), (2, .int .i64 b'), (3, .int .i64 lm), (8, .bool wb), (9, .bool wp), (10, .int .i64 l), (11, .int .i64 pv)] H') m3 (by omega) (by omega) (by omega) (fun H3 m q1 q3 q4 => ?_)
    · rw [hdl] at this; exact this
    apply hK0; clear hK0 K
    obtain ⟨pv2, hpv2⟩ : ∃ x : Nat, (b' : Int) - 1 - ((pv : Int) - a') = x := ⟨b' - 1 - (pv - a'), by omega⟩
    refine L_reg [0, 1, 2, 3, 8, 9, 10, 11] (fun K hK => ?_)
    simp [wrap_i64 (a := (b' : Int) - 1) (by omega), wrap_i64 (a := (pv : Int) - a') (by omega), hpv2, wrap_i64 (a := (pv2 : Int)) (by omega)]
    apply hK; clear hK K
    refine L_reg [0, 1, 2, 3, 8, 9, 10, 11, 12] (fun K hK => ?_)
    simp
    apply hK; clear hK K
    exact ⟨pv2, 1, m, by omega, hS.trans (q1.wide haa hbb), hO.mix q1 (by omega) haa hbb, hP.mix q1 (by omega), q3, hK2.trans q4, by simp⟩
  · exact ⟨pv, hint, d, hpv, hS, hO, hP, m3, hK2, by simp⟩
  clear hS hO hP hdl hdD m3 m4 hK2 hpv
  clear d H1 H2 pv hint
  rintro _ H1 ⟨pv, hint, d, hpv, hS, hO, hP, hrow, hK, rfl⟩
  have hdl : d.length = n := by rw [hS.len]; exact hn
  have hdD := hD.perm hS.1
  refine L_reg [0, 1, 2, 3, 8, 9, 10, 11, 68] (fun K hK0 => ?_)
  have hK2 : ∀ t : Bool, K [(0, SV sb r 0 n ver), (1, .int .i64 a'), (2, .int .i64 b'), (3, .int .i64 lm), (8, .bool wb), (9, .bool wp), (10, .int .i64 l), (11, .int .i64 pv), (68, .bool t)] H1 := by
    intro t
    refine hK0 _ _ ?_
    clear hK0 K
    refine L_condK [0, 1, 2, 3, 8, 9, 10, 11] (fun e' H' => ∃ (d : List Int), Shuf a b c d ∧ OrdEx κ a b a' b' d ∧ Pre κ a' b' d ∧ Rw tl r ver H' d ∧ KeepX r H H' ∧ e' = [(0, SV sb r 0 n ver), (1, .int .i64 a'), (2, .int .i64 b'), (3, .int .i64 lm), (8, .bool wb), (9, .bool wp), (10, .int .i64 l), (11, .int .i64 (pv : Nat))]) (t := t) rfl (fun ht => ?_) (fun ht => ?_) ?_
    · refine L_reg [0, 1, 2, 3, 8, 9, 10, 11, 72] (fun K hK0 => ?_)
      simp [okFn_low]
      have := partial_ac (sb := sb) D κ r ver a' b' d H1 (fun v H' => K [(0, SV sb r 0 n ver), (1, .int .i64 a'), (2, .int .i64 b'), (3, .int .i64 lm), (8, .bool wb), (9, .bool wp), (10, .int .i64 l), (11, .int .i64 pv), (72, v)] H') (hC.keep hK) hrow hdD (by omega) (by omega) (by omega) hP (fun H3 m t q1 q2 q3 q4 => ?_)
      · rw [hdl] at this; exact this
      apply hK0; clear hK0 K
      cases t with
      | true =>
        refine L_true rfl ?_
        exact L_ret ⟨.inr rfl, _, rfl, h H3 m (hS.trans (q1.wide haa hbb)) ((hO.mix q1 (by omega) haa hbb).srt (q2 rfl)) q3 (hK.trans q4)⟩
      | false =>
        refine L_false rfl ?_
        exact ⟨m, hS.trans (q1.wide haa hbb), hO.mix q1 (by omega) haa hbb, hP.mix q1 (by omega), q3, hK.trans q4, by simp⟩
    · exact ⟨d, hS, hO, hP, hrow, hK, by simp⟩
    clear hS hO hP hrow hK hdl hdD
    clear d H1
    rintro _ H1 ⟨d, hS, hO, hP, hrow, hK, rfl⟩
    have hdl : d.length = n := by rw [hS.len]; exact hn
    have hdD := hD.perm hS.1
    have hCk := hC.keep hK
    refine L_regT mixed [0, 1, 2, 3, 8, 9, 10, 11, 87] (by kernel_rfl) (fun K hK0 => ?_)
    have hK2 : ∀ t : Bool, (t = true → 0 < a' ∧ ¬ κ (g d (a' - 1)) < κ (g d pv)) → K [(0, SV sb r 0 n ver), (1, .int .i64 a'), (2, .int .i64 b'), (3, .int .i64 lm), (8, .bool wb), (9, .bool wp), (10, .int .i64 l), (11, .int .i64 pv), (87, .bool t)] H1 := by
      intro t ht
      refine hK0 _ _ ?_
      clear hK0 K
      refine L_split rfl (fun ht2 => ?_) (fun ht2 => ?_)
      · obtain ⟨hpos, hge⟩ := ht ht2
        have hmin : ∀ k, a' ≤ k → k < b' → κ (g d pv) ≤ κ (g d k) := fun k k1 k2 => Int.le_trans (Int.not_lt.1 hge) (hP hpos k k1 k2)
        refine L_reg [0, 2, 3, 8, 9, 13] (fun K hK0 => ?_)
        simp [okFn_low]
        refine partEq_ac' D κ r ver a' b' pv d n hdl H1 _ hCk hrow hdD (by omega) hpv.1 hpv.2 (by omega) (fun H2 m p p1 p2 m1 m2 m5 m3 m4 => ?_)
        simp
        apply hK0; clear hK0 K
        have hmin2 := m1.all (by omega) (p := fun x => κ (g d pv) ≤ κ x) hmin
        refine L_reg [0, 1, 2, 3, 8, 9] (fun K hK => ?_)
        simp
        apply hK; clear hK K
        refine L_exit ?_
        refine ⟨b' - p, [.int .i64 (p : Nat), .int .i64 b', .int .i64 lm, .bool wb, .bool wp], by omega, by simp, p, b', lm, wb, wp, m, rfl, by omega, by omega, hbb, hlm, hS.trans (m1.wide haa hbb), fun q1 q2 h1 h2 h3 h4 => ?_, fun hp0 k k1 k2 => ?_, rfl, m3, hK.trans m4⟩
        · by_cases e : a' ≤ q1 ∧ q2 < b'
          · have e1 := m2 q1 e.1 (by omega)
            exact Int.le_trans e1 (hmin2 q2 (by omega) e.2)
          · exact (hO.mix m1 (by omega) haa hbb) q1 q2 h1 h2 h3 e
        · exact Int.le_trans (m2 (p - 1) (by omega) (by omega)) (Int.le_of_lt (m5 k k1 k2))
      · clear ht
        refine L_reg [0, 1, 2, 3, 10, 14, 15] (fun K hK0 => ?_)
        simp [okFn_low]
        refine part_ac' D κ r ver a' b' pv d n hdl H1 _ hCk hrow hdD (by omega) hpv.1 hpv.2 (by omega) (fun H2 m p bb p1 p2 m1 m2 m5 m3 m4 => ?_)
        simp
        apply hK0; clear hK0 K
        have hml : m.length = n := by rw [m1.len, hdl]
        have hS2 := hS.trans (m1.wide haa hbb)
        have hO2 := hO.mix m1 (by omega) haa hbb
        have hP2 := hP.mix m1 (by omega)
        have hK3 := hK.trans m4
        have hr3 : r < H2.length := by have := hK3.1; omega
        clear hS hO hP hrow hK hdl hdD hCk m1 m4
        clear hpv ht2 d H1
        refine L_reg [0, 1, 2, 3, 9, 10, 14] (fun K hK => ?_)
        simp
        apply hK; clear hK K
        obtain ⟨ll, hll⟩ : ∃ x : Nat, (p : Int) - a' = x := ⟨p - a', by omega⟩
        obtain ⟨rl, hrl2⟩ : ∃ x : Nat, (b' : Int) - p = x := ⟨b' - p, by omega⟩
        have hq8 : ((l : Int)).tdiv 8 = ((l / 8 : Nat) : Int) := by rw [Int.tdiv_eq_ediv_of_nonneg (by omega)]; rfl
        obtain ⟨q8, hq80⟩ : ∃ q, q = l / 8 := ⟨_, rfl⟩
        rw [← hq80] at hq8
        refine L_reg [0, 1, 2, 3, 9, 10, 14, 16, 17] (fun K hK => ?_)
        simp [hll, hrl2, wrap_i64 (a := (ll : Int)) (by omega), wrap_i64 (a := (rl : Int)) (by omega)]
        apply hK; clear hK K
        refine L_reg [0, 1, 2, 3, 9, 14, 16, 17, 18] (fun K hK => ?_)
        simp [hq8, wrap_i64 (a := (q8 : Int)) (by omega)]
        apply hK; clear hK K
        refine L_reg [0, 1, 2, 3, 9, 14, 16, 17, 18, 113] (fun K hK => ?_)
        simp
        apply hK; clear hK K
        refine L_dec (ll < rl) (by simp) (fun hlr => ?_) (fun hlr => ?_)
        · refine L_reg [0, 1, 2, 3, 8, 9, 14] (fun K hK => ?_)
          simp
          apply hK; clear hK K
          refine L_reg [0, 2, 3, 8, 9, 14] (fun K hK0 => ?_)
          simp [okFn_low]
          refine ih a' p lm m H2 _ (by omega) (hC.keep hK3) m3 hr3 (hD.perm hS2.1) hml p1 (by omega) hlm (fun h0 k k1 k2 => hP2 h0 k k1 (by omega)) (fun H3 m' s1 s2 s3 s4 => ?_)
          simp
          apply hK0; clear hK0 K
          refine L_reg [0, 1, 2, 3, 8, 9] (fun K hK => ?_)
          simp [wrap_i64 (a := (p : Int) + 1) (by omega)]
          apply hK; clear hK K
          have hm5 := s1.all (by omega) (p := fun x => κ x ≤ κ (g m p)) m2
          have hpm : g m' p = g m p := s1.2 p (by omega)
          refine ⟨b' - (p + 1), [.int .i64 (p + 1 : Nat), .int .i64 b', .int .i64 lm, .bool (decide (q8 ≤ ll)), .bool bb], by omega, by simp, p + 1, b', lm, decide (q8 ≤ ll), bb, m', rfl, by omega, by omega, hbb, hlm, hS2.trans (s1.wide haa (by omega)), fun q1 q2 h1 h2 h3 h4 => ?_, fun hp0 k k1 k2 => ?_, rfl, s3, hK3.trans s4⟩
          · by_cases e : a' ≤ q1 ∧ q2 < b'
            · by_cases e2 : q2 < p
              · exact s2 q1 q2 e.1 h2 e2
              · by_cases e3 : q2 = p
                · subst e3; rw [hpm]; exact hm5 q1 e.1 (by omega)
                · have e4 : κ (g m p) ≤ κ (g m' q2) := by rw [s1.2 q2 (by omega)]; exact m5 q2 (by omega) e.2
                  by_cases e5 : q1 = p
                  · rw [e5, hpm]; exact e4
                  · exact Int.le_trans (hm5 q1 e.1 (by omega)) e4
            · exact (hO2.mix (s1.wide (Nat.le_refl _) (by omega)) (by omega) haa hbb) q1 q2 h1 h2 h3 e
          · rw [show p + 1 - 1 = p by omega, hpm, s1.2 k (by omega)]
            exact m5 k (by omega) k2
        · refine L_reg [0, 1, 2, 3, 8, 9, 14] (fun K hK => ?_)
          simp
          apply hK; clear hK K
          refine L_reg [0, 1, 3, 8, 9, 14] (fun K hK0 => ?_)
          simp [okFn_low, wrap_i64 (a := (p : Int) + 1) (by omega)]
          refine ih (p + 1) b' lm m H2 _ (by omega) (hC.keep hK3) m3 hr3 (hD.perm hS2.1) hml (by omega) (by omega) hlm (fun h0 k k1 k2 => by rw [show p + 1 - 1 = p by omega]; exact m5 k (by omega) k2) (fun H3 m' s1 s2 s3 s4 => ?_)
          simp
          apply hK0; clear hK0 K
          refine L_reg [0, 1, 2, 3, 8, 9] (fun K hK => ?_)
          simp
          apply hK; clear hK K
          have hm5 := s1.all (by omega) (p := fun x => κ (g m p) ≤ κ x) (fun k k1 k2 => m5 k (by omega) k2)
          have hpm : g m' p = g m p := s1.2 p (by omega)
          refine ⟨p - a', [.int .i64 a', .int .i64 (p : Nat), .int .i64 lm, .bool (decide (q8 ≤ rl)), .bool bb], by omega, by simp, a', p, lm, decide (q8 ≤ rl), bb, m', rfl, by omega, by omega, by omega, hlm, hS2.trans (s1.wide (by omega) hbb), fun q1 q2 h1 h2 h3 h4 => ?_, fun hp0 k k1 k2 => ?_, rfl, s3, hK3.trans s4⟩
          · by_cases e : a' ≤ q1 ∧ q2 < b'
            · by_cases e2 : p < q1
              · exact s2 q1 q2 (by omega) h2 e.2
              · by_cases e3 : q1 = p
                · subst e3; rw [hpm]; exact hm5 q2 (by omega) e.2
                · have e4 : κ (g m' q1) ≤ κ (g m p) := by rw [s1.2 q1 (by omega)]; exact m2 q1 e.1 (by omega)
                  by_cases e5 : q2 = p
                  · rw [e5, hpm]; exact e4
                  · exact Int.le_trans e4 (hm5 q2 (by omega) e.2)
            · exact (hO2.mix (s1.wide (by omega) (Nat.le_refl _)) (by omega) haa hbb) q1 q2 h1 h2 h3 e
          · rw [s1.2 k (by omega), s1.2 (a' - 1) (by omega)]
            exact hP2 hp0 k k1 (by omega)
    by_cases hpos : 0 < a'
    · obtain ⟨a0, ha0⟩ : ∃ a0 : Nat, (a' : Int) - 1 = a0 := ⟨a' - 1, by omega⟩
      have ha0n : a' - 1 = a0 := by omega
      have hx := hrow.ld (i := a0) (by omega)
      have hy := hrow.ld (i := pv) (by omega)
      have t1 : a0 < n := by omega
      have t2 : pv < n := by omega
      simp [okFn_low, hpos, ha0, t1, t2, hx, hy, wrap_i64 (a := (a0 : Int)) (by omega)]
      refine exC_mk (fun Q hQ => hCk.2 H1 (.refl _ _) _ _ (hdD a0 (by omega)) (hdD pv (by omega)) Q hQ) ?_
      simp [pickV]
      refine hK2 _ (fun ht => ⟨hpos, fun h => ?_⟩)
      rw [ha0n] at h
      have := cmpS_neg.2 h
      simp at ht
      omega
    · have ha0 : a' = 0 := by omega
      subst ha0
      simp [pickV]
      exact hK2 false (fun h => by cases h)
  cases wb <;> cases wp <;> simp [pickV] <;> exact hK2 _
end Go.Proofs.Ytcidcihpkdoejaa.Ord
