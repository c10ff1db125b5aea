/- The outline does not grow; from how few bales a whole store is reached. -/
import Derived.Test.YtfbpgnjeafadmaaOutP
namespace Go.Proofs.Ytfbpgnjeafadmaa.Fl
open Go Go.Proofs.Ytfbpgnjeafadmaa Go.Proofs.Ytfbpgnjeafadmaa.AX
set_option maxRecDepth 100000

theorem opn_none (n : Nat) : opn n (tb 0) = lt' n := by
  funext b
  simp [opn, sub', tb]
theorem lt_sub (n : Nat) : ∀ b, lt' n b = true → b < n := fun b hb => of_decide_eq_true hb
theorem num_asc {T : Nat → Bool} {i j : Nat} {b b' : Nat} (hi : i < (num T).length) (hj : j < (num T).length) (h : i < j) (hb : g (num T) j = b) (hb' : g (num T) i = b') : b' < b := by
  have hp : (num T).Pairwise (· < ·) := by
    unfold num
    exact List.Pairwise.map _ (fun a b h => by omega) (List.Pairwise.filter _ List.pairwise_lt_range)
  have := List.pairwise_iff_getElem.1 hp i j hi hj h
  rw [← g_lt hi, ← g_lt hj, hb, hb'] at this
  omega
set_option maxHeartbeats 4000000 in
theorem outl_ac (nn : List Int) (e : nn.length = 4) (b : ∀ (i : Nat) (k : IntKind) (x : Int), ([.u8, .u8, .u32, .u32] : List IntKind)[i]? = some k → nn[i]? = some x → k.min ≤ x ∧ x ≤ k.max) (H : AH) : AC Try.prog 7 [.agg (List.zipWith AV.int [.u8, .u8, .u32, .u32] nn)] H fun v _ => v = .bool true := by
  obtain ⟨a, b0, x, y, hzip, ha, hb, hx, hy⟩ := floor_int nn e b
  rw [hzip]
  refine L_body 179 Try.func7 rfl rfl ?_
  obtain ⟨I, hI, hz⟩ := zeroT_some zt24'
  obtain ⟨J, hJ, hj⟩ := zeroT_some zt57
  refine L_reg [1] (fun K hK => ?_)
  simp [AV.isU, acells]
  apply hK; clear hK K
  have d1 : (H ++ [AObj.row [.int .u8 a, .int .u8 b0, .int .u32 x, .int .u32 y] 0 0 false])[H.length]? = some (.row [.int .u8 a, .int .u8 b0, .int .u32 x, .int .u32 y] 0 0 false) := by simp
  generalize H ++ [AObj.row [.int .u8 a, .int .u8 b0, .int .u32 x, .int .u32 y] 0 0 false] = H1 at d1 ⊢
  have a1 := ldn_fl d1
  refine L_reg [3, 4, 5, 6] (fun K hK => ?_)
  simp [okFn_low, a1]
  refine made_s a b0 x y 5 true ha hb hx hy (.inr rfl) _ _ (fun r c n s z v1 v2 H2 hr5 hc5 hst hsn hzn hz0 o1 o2 hE2 => ?_)
  simp [hI, hz, hJ, hj, two24 _ o1 o2, two57]
  apply hK; clear hK K
  have d3 : (H2 ++ [AObj.row [.int .i64 r, .int .i64 c, v1, v2] 0 0 false, AObj.row [.int .i64 r, .int .i64 c] 0 0 false])[H2.length]? = some (.row [.int .i64 r, .int .i64 c, v1, v2] 0 0 false) := by simp
  have d4 : (H2 ++ [AObj.row [.int .i64 r, .int .i64 c, v1, v2] 0 0 false, AObj.row [.int .i64 r, .int .i64 c] 0 0 false])[H2.length + 1]? = some (.row [.int .i64 r, .int .i64 c] 0 0 false) := by simp
  replace hst := hst.ext (.push H2 [AObj.row [.int .i64 r, .int .i64 c, v1, v2] 0 0 false, AObj.row [.int .i64 r, .int .i64 c] 0 0 false])
  obtain ⟨p3, hp3⟩ : ∃ p, H2.length = p := ⟨_, rfl⟩
  rw [hp3] at d3 d4 ⊢
  generalize H2 ++ [AObj.row [.int .i64 r, .int .i64 c, v1, v2] 0 0 false, AObj.row [.int .i64 r, .int .i64 c] 0 0 false] = H3 at d3 d4 hst ⊢
  clear hE2 hp3 H2 a1 d1 H1 hzip
  have k1 : v1 ≠ .undef := one_known o1
  have k2 : v2 ≠ .undef := one_known o2
  have hs := hst.hs
  have hn := hst.hn
  have h25 := hs.le
  rw [hn] at h25
  have hs32 := p32 h25 hsn
  have hz32 := p32 h25 hzn
  have hSr : ∀ b, tb s b = true → b < r * c := by rw [hn]; exact hst.hS
  obtain ⟨A, hA⟩ : ∃ A, 2 ^ n - 1 = A := ⟨_, rfl⟩
  obtain ⟨B, hB⟩ : ∃ B, 2 ^ n = B := ⟨_, rfl⟩
  have hp1 : 1 ≤ 2 ^ n := Nat.one_le_two_pow
  have hp2 : 2 ^ n ≤ 33554432 := Nat.le_trans (Nat.pow_le_pow_right (by decide) h25) (by decide)
  have htA : tb A = lt' n := by rw [← hA]; exact lt_tb n
  have hA25 : A < 2 ^ n := by omega
  have hA32 : A < 4294967296 := by omega
  have em : (r : Int) * c = n := by rw [← hn]; simp
  have wn : IntKind.i64.wrap (n : Int) = n := wrap_i64 (by omega)
  have hshl : ∀ tt ll, binV Try.prog .shl tt ll (.int .u32 1) (.int .i64 (n : Int)) = some (.int .u32 ((1 <<< n : Nat) : Int)) := fun tt ll => n_shl32 n (by omega)
  rw [show 1 <<< n = 2 ^ n by rw [Nat.shiftLeft_eq, Nat.one_mul], hB] at hshl
  have wA : IntKind.u32.wrap ((B : Int) - 1) = A := by rw [wrap_u32 (by omega)]; omega
  obtain ⟨S, hS⟩ : ∃ S, tb s = S := ⟨_, rfl⟩
  obtain ⟨Z, hZ⟩ : ∃ Z, tb z = Z := ⟨_, rfl⟩
  rw [hS] at hst hSr
  rw [hZ] at hst
  have hls : ∀ (H : AH) (Q : AV → AH → Prop), Q (.int .u32 (mOf (sp r c 2 (opn n Z) S) n : Nat)) H → AC Try.prog 42 [.agg [.int .i64 r, .int .i64 c], .int .u32 s, .int .u32 z] H Q := fun H Q hQ => lspread_q hs hn s z hsn hz32 H Q (by rw [hS, hZ]; exact hQ)
  have hspn : tb (mOf (sp r c 2 (opn n Z) S) n) = sp r c 2 (opn n Z) S := mOf_fun (by rw [← hn]; exact sp_sup hSr)
  have hsp25 : mOf (sp r c 2 (opn n Z) S) n < 2 ^ n := mOf_lt _ (Nat.le_refl _)
  have hle := ol_sp (O := opn n Z) hs hSr
  have ho1 : ∀ (H : AH) (Q : AV → AH → Prop), Q (.int .i64 (ol r c S)) H → AC Try.prog 41 [.agg [.int .i64 r, .int .i64 c], .int .u32 s] H Q := fun H Q hQ => loutline_q hs hn s hsn H Q (by rw [hS]; exact hQ)
  have ho2 : ∀ (H : AH) (Q : AV → AH → Prop), Q (.int .i64 (ol r c (sp r c 2 (opn n Z) S))) H → AC Try.prog 41 [.agg [.int .i64 r, .int .i64 c], .int .u32 (mOf (sp r c 2 (opn n Z) S) n : Nat)] H Q := fun H Q hQ => loutline_q hs hn _ hsp25 H Q (by rw [hspn]; exact hQ)
  generalize mOf (sp r c 2 (opn n Z) S) n = M at hls ho2
  have a3 := ldn4 d3 k1 k2
  have hous := fun Q hQ => Outline_s hst Q hQ
  generalize ol r c (sp r c 2 (opn n Z) S) = y2 at hle ho2 hous
  generalize ol r c S = y1 at hle ho1 hous
  refine L_reg [4, 5, 6, 7, 8, 9] (fun K hK => ?_)
  simp [okFn_low, a3]
  refine hous _ (fun H4 hE4 => ?_)
  simp
  apply hK; clear hK K
  replace d4 := hE4.row d4
  clear d3 a3 hst hE4 hous H3
  have f0 := ld_f0 d4
  have f1 := ld_f1 d4
  have a4 := ldn_f d4
  refine L_reg [4, 5, 6, 7, 8, 9, 10] (fun K hK => ?_)
  simp [f0, f1, em, wn, hshl, wA]
  apply hK; clear hK K
  have hlt : ¬ y1 < y2 := by omega
  refine L_regQ mixed [4, 10, 62] (by kernel_rfl) (fun K hK => ?_)
  simp [okFn_low, a4]
  refine exQ_mk (fun Q hQ => ho1 _ Q hQ) ?_
  simp [okFn_low, a4, pickV]
  refine exQ_mk (fun Q hQ => hls _ Q hQ) ?_
  simp [okFn_low]
  refine exQ_mk (fun Q hQ => ho2 _ Q hQ) ?_
  simp [pickV, hlt]
  apply hK; clear hK K
  refine L_false (by simp; try omega) ?_
  clear ho1 ho2 hls hspn hsp25 hle hlt wA hshl
  have hlq := fun H Q hQ => Least_q hs H Q hQ
  have hpq := fun H Q hQ => Plant_ac r c H Q (fun hno => absurd (show okSides (r : Int) c from ⟨⟨by have := hs.r1; omega, by have := hs.r5; omega⟩, by have := hs.c1; omega, by have := hs.c5; omega⟩) hno) (fun _ => hQ)
  rw [Int.toNat_natCast, Int.toNat_natCast, hn] at hpq
  obtain ⟨T, hT1, hT2, hT3, hT4, hT5⟩ := plant_is hs hn
  rw [hT1] at hpq
  have hr5' := hs.r5
  have hc5' := hs.c5
  have e1 : ((r : Int) + c) = ((r + c : Nat) : Int) := by omega
  obtain ⟨lr, hlr⟩ : ∃ x, r + c = x := ⟨_, rfl⟩
  obtain ⟨lr1, hlr1⟩ : ∃ x, r + c + 1 = x := ⟨_, rfl⟩
  obtain ⟨k, hk⟩ : ∃ k, (r + c + 1) / 2 = k := ⟨_, rfl⟩
  rw [hk] at hlq hT3 hT5
  have hk2 : lr1 / 2 = k := by rw [← hlr1, hk]
  have eq2 := quo_nat lr1 2
  rw [hk2] at eq2
  have eq2 : ((lr1 : Nat) : Int).tdiv 2 = k := eq2
  rw [hlr] at e1
  have e2 : (lr : Int) + 1 = lr1 := by omega
  have wl1 : IntKind.i64.wrap (lr : Int) = lr := wrap_i64 (by omega)
  have wl2 : IntKind.i64.wrap (lr1 : Int) = lr1 := wrap_i64 (by omega)
  have wl3 : IntKind.i64.wrap (k : Int) = k := wrap_i64 (by omega)
  refine L_reg [4, 9, 10, 11] (fun K hK => ?_)
  simp [okFn_low, f0, f1]
  refine hlq _ _ ?_
  simp
  apply hK; clear hK K
  refine L_reg [4, 9, 10, 11, 12, 13] (fun K hK => ?_)
  simp [okFn_low, f0, f1]
  refine hpq _ _ (fun v H5 hN hE5 => ?_)
  simp
  apply hK; clear hK K
  replace d4 := hE5.row d4
  have hv := ownF_ls hN.2
  have hvl := ls_len hv
  rw [hT3] at hvl
  clear hN hE5 hlq hpq f0 f1 a4 H4
  have f0 := ld_f0 d4
  have f1 := ld_f1 d4
  have a4 := ldn_f d4
  have hnl := num_len T
  rw [hT3] at hnl
  refine L_reg [4, 10, 11, 12, 101] (fun K hK => ?_)
  simp [f0, f1, e1, wl1, e2, wl2, eq2, wl3, hvl, pickV]
  apply hK; clear hK K
  refine L_false (by simp) ?_
  refine L_reg [4, 10, 11, 12, 14] (fun K hK => ?_)
  simp
  apply hK; clear hK K
  refine L_reg [4, 10, 11, 12, 14, 102, 103, 104] (fun K hK => ?_)
  simp [hvl]
  apply hK; clear hK K
  have hset : ∀ j, j ≤ k → ∀ x, x < 2 ^ n → True := fun _ _ _ _ => trivial
  refine L_block (L_loopV [14, 104] (fun q vs H' => ∃ (j m : Nat), q = k - j ∧ j ≤ k ∧ vs = [.int .u32 m, .int .i64 j] ∧ H5 = H' ∧ m < 2 ^ n ∧ (∀ b : Nat, tb m b = true ↔ (b : Int) ∈ (num T).take j)) _ [.int .u32 (0 : Nat), .int .i64 (0 : Nat)] rfl ⟨0, 0, rfl, by omega, rfl, rfl, Nat.two_pow_pos n, fun b => by simp [tb]⟩ ?_)
  rintro q _ _ ⟨j, m, rfl, hj, rfl, rfl, hmn, hm⟩
  refine L_reg [4, 10, 11, 12, 14, 102, 103, 104, 105] (fun K hK => ?_)
  simp
  apply hK; clear hK K
  refine L_dec (j < k) (by simp) (fun hjk => ?_) (fun hge => L_exit ?_)
  · refine L_block ?_
    have hjl : j < (num T).length := by rw [hT3]; exact hjk
    obtain ⟨rz, pz, vz, hix, hldz⟩ := ls_ix hv hjl
    obtain ⟨b, hb, hb25, hTb⟩ := num_at hjl
    have hbn := hT2 b hTb
    rw [hb] at hldz
    have hm32 := p32 h25 hmn
    have hshl : ∀ tt ll, binV Try.prog .shl tt ll (.int .u32 1) (.int .i64 (b : Int)) = some (.int .u32 ((1 <<< b : Nat) : Int)) := fun tt ll => n_shl32 b (by omega)
    have h1b : 1 <<< b < 4294967296 := by
      rw [Nat.shiftLeft_eq, Nat.one_mul]
      exact Nat.lt_of_lt_of_le (Nat.pow_lt_pow_right (by decide) (show b < 32 by omega)) (by decide)
    have hml := or_lt hmn hbn
    have hmu := tb_upd m b
    obtain ⟨sh, hsh⟩ : ∃ sh, 1 <<< b = sh := ⟨_, rfl⟩
    rw [hsh] at h1b hml hmu
    simp only [hsh] at hshl
    have hor : ∀ tt ll, binV Try.prog .or tt ll (.int .u32 (m : Int)) (.int .u32 (sh : Int)) = some (.int .u32 ((m ||| sh : Nat) : Int)) := fun tt ll => n_or32 m sh hm32 h1b
    have hng : ¬ (n : Int) ≤ b := by omega
    have hng2 : ¬ n ≤ b := by omega
    have hbz : ¬ (b : Int) < 0 := by omega
    refine L_reg [4, 10, 11, 12, 14, 15, 16, 102, 103, 104] (fun K hK => ?_)
    simp [hix, hldz]
    apply hK; clear hK K
    have hcond : ∀ (K : Env → AH → Prop), K [(4, .ptr (p3 + 1) 0 0), (10, .int .u32 A), (11, .int .i64 k), (12, v), (14, .int .u32 m), (16, .int .i64 b), (102, v), (103, .int .i64 k), (104, .int .i64 j), (132, .bool false)] H5 → True := fun _ _ => trivial
    refine L_reg [4, 10, 11, 12, 14, 16, 102, 103, 104, 132] (fun K hK => ?_)
    suffices hk : K [(4, .ptr (p3 + 1) 0 0), (10, .int .u32 A), (11, .int .i64 k), (12, v), (14, .int .u32 m), (16, .int .i64 b), (102, v), (103, .int .i64 k), (104, .int .i64 j), (132, .bool false)] H5 by
      rcases Nat.eq_zero_or_pos j with h0 | h0
      · subst h0
        simp (maxSteps := 1000000) [f0, f1, em, wn, hng2, hbz, pickV]
        exact hk
      · obtain ⟨i, hi⟩ : ∃ i, j = i + 1 := ⟨j - 1, by omega⟩
        have hil : i < (num T).length := by omega
        obtain ⟨ry, py, vy, hiy, hldy⟩ := ls_ix hv hil
        obtain ⟨b', hb', -, -⟩ := num_at hil
        rw [hb'] at hldy
        have hasc : b' < b := num_asc hil hjl (by omega) hb hb'
        have hw1 : IntKind.i64.wrap ((j : Int) - 1) = (i : Int) := by rw [wrap_i64 (by omega)]; omega
        have hnl2 : ¬ b ≤ b' := by omega
        have hj0 : 0 < j := h0
        simp (maxSteps := 1000000) [f0, f1, em, wn, hng2, hbz, pickV, hj0, hw1, hiy, hldy, hnl2]
        exact hk
    apply hK; clear hK K
    refine L_false (by simp) ?_
    refine L_reg [4, 10, 11, 12, 14, 102, 103, 104] (fun K hK => ?_)
    simp [hshl, hor]
    apply hK; clear hK K
    refine L_reg [4, 10, 11, 12, 14, 102, 103, 104] (fun K hK => ?_)
    simp [wrap_i64 (a := (j : Int) + 1) (by omega)]
    apply hK; clear hK K
    refine ⟨k - (j + 1), [.int .u32 (m ||| sh : Nat), .int .i64 (j + 1 : Nat)], by omega, by simp, j + 1, m ||| sh, rfl, by omega, rfl, rfl, hml, fun x => ?_⟩
    rw [hmu, List.take_add_one, List.getElem?_eq_getElem hjl, ← g_lt hjl, hb]
    unfold upd
    by_cases hx : x = b
    · subst hx; simp
    · rw [if_neg hx, hm x]
      simp
      omega
  have hjk : j = k := by omega
  have hmT : tb m = T := by
    funext b
    have h1 := hm b
    rw [hjk, ← hT3, List.take_length, mem_num] at h1
    cases hTb : T b with
    | true => exact h1.2 ⟨b, by have := hT2 b hTb; omega, hTb, rfl⟩
    | false =>
      cases h2 : tb m b with
      | false => rfl
      | true =>
        obtain ⟨x, -, h3, h4⟩ := h1.1 h2
        have : x = b := by omega
        subst this
        rw [hTb] at h3; cases h3
  clear hset hm
  have hsm : ∀ (H : AH) (Q : AV → AH → Prop), Q (.int .u32 A) H → AC Try.prog 42 [.agg [.int .i64 r, .int .i64 c], .int .u32 m, .int .u32 (0 : Nat)] H Q := fun H Q hQ => lspread_q hs hn m 0 hmn (by decide) H Q (by
    rw [hmT, opn_none, hT4]
    have : mOf (lt' n) n = A := tb_inj (by rw [mOf_fun (lt_sub n), htA])
    rw [this]; exact hQ)
  refine L_reg [4, 10, 11, 12, 142] (fun K hK => ?_)
  simp [okFn_low, a4]
  refine hsm _ _ ?_
  simp
  apply hK; clear hK K
  refine L_false (by simp) ?_
  refine L_reg [4, 10, 11, 12, 148] (fun K hK => ?_)
  simp [f0, f1, em, wn]
  apply hK; clear hK K
  by_cases h12 : 12 < n
  · refine L_true (by simp; omega) ?_
    refine L_reg [2] (fun K hK => ?_)
    simp [okFn_low]
    refine works_ac _ _ ?_
    simp
    apply hK; clear hK K
    exact L_ret ⟨.inr rfl, _, rfl, rfl⟩
  refine L_false (by simp; omega) ?_
  clear hsm hmT
  refine L_reg [4, 10, 11, 12, 17] (fun K hK => ?_)
  simp
  apply hK; clear hK K
  refine L_block (L_loopV [17] (fun q vs H' => ∃ o : Nat, q = A + 1 - o ∧ o ≤ A + 1 ∧ vs = [.int .u32 o] ∧ Ext H5 H') _ [.int .u32 (0 : Nat)] rfl ⟨0, rfl, by omega, rfl, .refl _⟩ ?_)
  rintro q _ H6 ⟨o, rfl, ho, rfl, hE⟩
  refine L_reg [4, 10, 11, 12, 17, 152] (fun K hK => ?_)
  simp
  apply hK; clear hK K
  refine L_dec (o ≤ A) (by simp) (fun hle => ?_) (fun hgt => L_exit ?_)
  case refine_2 =>
    refine L_reg [2] (fun K hK => ?_)
    simp [okFn_low]
    refine works_ac _ _ ?_
    simp
    apply hK; clear hK K
    exact L_ret ⟨.inr rfl, _, rfl, rfl⟩
  refine L_block ?_
  have hon : o < 2 ^ n := by omega
  have ho32 := p32 h25 hon
  have wo : IntKind.u32.wrap ((o : Int) + 1) = ((o + 1 : Nat) : Int) := by rw [wrap_u32 (by omega)]; omega
  refine L_reg [4, 10, 11, 12, 17, 18] (fun K hK => ?_)
  simp [okFn_low]
  refine bits_ac o ho32 _ _ (fun w H7 hN hE7 => ?_)
  simp
  apply hK; clear hK K
  have hw := ownF_ls hN.2
  have hwl := ls_len hw
  have hE57 := hE.trans hE7
  have hv7 := hv.ext hE57
  have a47 := ldn_f (hE57.row d4)
  clear hN hE hE7
  have hnlo := num_len (tb o)
  obtain ⟨lo, hlo⟩ : ∃ x, (num (tb o)).length = x := ⟨_, rfl⟩
  rw [hlo] at hwl hnlo
  have hrange : ∀ S : Nat → Bool, ∀ x ∈ num S, 0 ≤ x ∧ x < 25 := fun S x hx => by
    obtain ⟨b, h1, -, rfl⟩ := mem_num.1 hx
    omega
  have hcq := fun H (h1 : Ls H w (num (tb o))) (h2 : Ls H v (num T)) Q hQ => Compare_q w v (num (tb o)) (num T) H Q h1 h2 (hrange _) (hrange _) (by omega) (by omega) hQ
  obtain ⟨lx, hlx⟩ : ∃ x, lexI (num (tb o)) (num T) = x := ⟨_, rfl⟩
  rw [hlx] at hcq
  have next : ∀ H', Ext H5 H' → ∃ k' vs', k' < A + 1 - o ∧ vs' = [AV.int .u32 ((o + 1 : Nat) : Int)] ∧ ∃ o' : Nat, k' = A + 1 - o' ∧ o' ≤ A + 1 ∧ vs' = [.int .u32 o'] ∧ Ext H5 H' := fun H' hE => ⟨A + 1 - (o + 1), _, by omega, rfl, o + 1, rfl, by omega, rfl, hE⟩
  have skip : ∀ b : Bool, b = true → True := fun _ _ => trivial
  by_cases c1 : k < lo
  · refine L_reg [4, 10, 11, 12, 17, 172] (fun K hK => ?_)
    simp [hwl, c1, pickV]
    apply hK; clear hK K
    refine L_true (by simp) ?_
    refine L_exit ?_
    refine L_reg [4, 10, 11, 12, 17] (fun K hK => ?_)
    simp [wo]
    apply hK; clear hK K
    exact ⟨A + 1 - (o + 1), [.int .u32 (o + 1 : Nat)], by omega, by simp, o + 1, rfl, by omega, rfl, hE57⟩
  have goal : ∀ (_ : ¬ (lo = k ∧ 0 ≤ lx)), sp r c 2 (lt' n) (tb o) ≠ lt' n := by
    intro hno hfull
    have hfew := few (O := lt' n) hs (S := tb o) (by rw [hn]; exact tb_lt hon) (by rw [hn]; exact hfull)
    rw [hlo] at hfew
    have hkk : lo = k := by omega
    exact hno ⟨hkk, by rw [← hlx]; exact hT5 (tb o) (tb_lt hon) (by rw [hlo, hkk]) hfull⟩
  have hso : ∀ (H : AH) (Q : AV → AH → Prop), Q (.int .u32 (mOf (sp r c 2 (lt' n) (tb o)) n : Nat)) H → AC Try.prog 42 [.agg [.int .i64 r, .int .i64 c], .int .u32 o, .int .u32 (0 : Nat)] H Q := fun H Q hQ => lspread_q hs hn o 0 hon (by decide) H Q (by rw [opn_none]; exact hQ)
  have hmo : (mOf (sp r c 2 (lt' n) (tb o)) n = A) → sp r c 2 (lt' n) (tb o) = lt' n := fun h => by
    have h2 := mOf_fun (S := sp r c 2 (lt' n) (tb o)) (n := n) (by rw [← hn]; exact sp_sup (by rw [hn]; exact tb_lt hon))
    rw [h, htA] at h2
    exact h2.symm
  generalize mOf (sp r c 2 (lt' n) (tb o)) n = X at hso hmo
  by_cases c2 : lo = k
  · have c1' : ¬ (k < lo) := c1
    refine L_reg [4, 10, 11, 12, 17, 172] (fun K hK => ?_)
    suffices hk : K [(4, .ptr (p3 + 1) 0 0), (10, .int .u32 A), (11, .int .i64 k), (12, v), (17, .int .u32 o), (172, .bool (decide (0 ≤ lx)))] H7 by
      simp [okFn_low, hwl, c2]
      refine hcq _ hw hv7 _ ?_
      simp [pickV]
      exact hk
    apply hK; clear hK K
    by_cases c3 : 0 ≤ lx
    · refine L_true (by simp [c3]) ?_
      refine L_exit ?_
      refine L_reg [4, 10, 11, 12, 17] (fun K hK => ?_)
      simp [wo]
      apply hK; clear hK K
      exact ⟨A + 1 - (o + 1), [.int .u32 (o + 1 : Nat)], by omega, by simp, o + 1, rfl, by omega, rfl, hE57⟩
    · have hX : ¬ X = A := fun h => goal (fun h2 => c3 h2.2) (hmo h)
      refine L_false (by simp; omega) ?_
      refine L_reg [4, 10, 11, 12, 17, 177] (fun K hK => ?_)
      simp [okFn_low, a47]
      refine hso _ _ ?_
      simp
      apply hK; clear hK K
      refine L_false (by simp; omega) ?_
      refine L_reg [4, 10, 11, 12, 17] (fun K hK => ?_)
      simp [wo]
      apply hK; clear hK K
      exact ⟨A + 1 - (o + 1), [.int .u32 (o + 1 : Nat)], by omega, by simp, o + 1, rfl, by omega, rfl, hE57⟩
  · have hX : ¬ X = A := fun h => goal (fun h2 => c2 h2.1) (hmo h)
    have c2' : ((lo : Int) == (k : Int)) = false := by
      cases h : (lo : Int) == (k : Int) with
      | false => rfl
      | true => exact absurd (by have := eq_of_beq h; omega) c2
    refine L_reg [4, 10, 11, 12, 17, 172] (fun K hK => ?_)
    simp [hwl, c1, c2', pickV]
    apply hK; clear hK K
    refine L_false (by simp) ?_
    refine L_reg [4, 10, 11, 12, 17, 177] (fun K hK => ?_)
    simp [okFn_low, a47]
    refine hso _ _ ?_
    simp
    apply hK; clear hK K
    refine L_false (by simp; omega) ?_
    refine L_reg [4, 10, 11, 12, 17] (fun K hK => ?_)
    simp [wo]
    apply hK; clear hK K
    exact ⟨A + 1 - (o + 1), [.int .u32 (o + 1 : Nat)], by omega, by simp, o + 1, rfl, by omega, rfl, hE57⟩
end Go.Proofs.Ytfbpgnjeafadmaa.Fl
