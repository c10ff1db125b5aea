/- Bales that are safe by themselves. -/
import Derived.Test.YtfbpgnjeafadmaaProvP
namespace Go.Proofs.Ytfbpgnjeafadmaa.Fl
open Go Go.Proofs.Ytfbpgnjeafadmaa Go.Proofs.Ytfbpgnjeafadmaa.AX
set_option maxRecDepth 100000

theorem adn_sub {p q : Nat} (hp : p < 4294967296) : tb (adn p q) = sub' (tb p) (tb q) := by
  funext x
  exact adn_bit hp x
theorem and_zero {p q : Nat} : (p &&& q = 0) ↔ ∀ b, tb p b = true → tb q b = false := by
  constructor
  · intro h b hb
    have := congrArg (fun m => m.testBit b) h
    simp only [Nat.testBit_and, Nat.zero_testBit] at this
    rw [show p.testBit b = true from hb, Bool.true_and] at this
    exact this
  · intro h
    refine Nat.eq_of_testBit_eq fun b => ?_
    rw [Nat.testBit_and, Nat.zero_testBit]
    cases hb : p.testBit b with
    | false => rfl
    | true => rw [Bool.true_and]; exact h b hb
/-- The law's own test. -/
theorem safe_law {r c n s z o A : Nat} (hA : tb A = lt' n) (hA32 : A < 4294967296) (_hz32 : z < 4294967296) (ho32 : o < 4294967296) (ho : ∀ b, tb o b = true → b < n) (hn : n ≤ 25) :
    (decide (o &&& s = 0) && (num (tb (adn o z))).all fun x => decide (bes r c (tb (adn (adn A o) z)) x.toNat < 2)) = safeS r c n (tb s) (tb z) (tb o) := by
  have e1 : tb (adn (adn A o) z) = sub' (opn n (tb z)) (tb o) := by
    rw [adn_sub (p := adn A o) (BitVec.isLt _), adn_sub hA32, hA]
    funext x
    simp only [sub', opn]
    cases lt' n x <;> cases tb o x <;> cases tb z x <;> rfl
  rw [e1, adn_sub ho32]
  have hb : ∀ a b : Bool, (a = true ↔ b = true) → a = b := fun a b h => by cases a <;> cases b <;> simp_all
  apply hb
  unfold safeS
  rw [Bool.and_eq_true, decide_eq_true_eq, and_zero, List.all_eq_true, List.all_eq_true]
  constructor
  · rintro ⟨h1, h2⟩ x hx
    obtain ⟨b, hb1, hb2, rfl⟩ := mem_num.1 hx
    rw [Int.toNat_natCast, h1 b hb2]
    cases hz : tb z b with
    | true => rfl
    | false =>
      have := h2 b (mem_num.2 ⟨b, hb1, by simp [sub', hb2, hz], rfl⟩)
      rw [Int.toNat_natCast] at this
      simpa using this
  · intro h
    refine ⟨fun b hb2 => ?_, fun x hx => ?_⟩
    · have := h b (mem_num.2 ⟨b, by have := ho b hb2; omega, hb2, rfl⟩)
      rw [Int.toNat_natCast] at this
      simp only [Bool.and_eq_true, Bool.not_eq_true'] at this
      exact this.1
    · obtain ⟨b, hb1, hb2, rfl⟩ := mem_num.1 hx
      simp only [sub', Bool.and_eq_true, Bool.not_eq_true'] at hb2
      have := h b (mem_num.2 ⟨b, hb1, hb2.1, rfl⟩)
      rw [Int.toNat_natCast] at this ⊢
      simp only [hb2.2, Bool.false_or, Bool.and_eq_true] at this
      exact this.2
theorem safeL_ac (nn : List Int) (e : nn.length = 4) (b : ∀ (i : Nat) (k : IntKind) (x : Int), ([.u8, .u8, .u32, .u32] : List IntKind)[i]? = some k → nn[i]? = some x → k.min ≤ x ∧ x ≤ k.max) (H : AH) : AC Try.prog 9 [.agg (List.zipWith AV.int [.u8, .u8, .u32, .u32] nn)] H fun v _ => v = .bool true := by
  obtain ⟨a, b0, x, y, hzip, ha, hb, hx, hy⟩ := floor_int nn e b
  rw [hzip]
  refine L_body 96 Try.func9 rfl rfl ?_
  obtain ⟨I, hI, hz⟩ := zeroT_some zt24'
  obtain ⟨J, hJ, hj⟩ := zeroT_some zt57
  refine L_reg [1] (fun K hK => ?_)
  simp [AV.isU, acells]
  apply hK; clear hK K
  have d1 : (H ++ [AObj.row [.int .u8 a, .int .u8 b0, .int .u32 x, .int .u32 y] 0 0 false])[H.length]? = some (.row [.int .u8 a, .int .u8 b0, .int .u32 x, .int .u32 y] 0 0 false) := by simp
  generalize H ++ [AObj.row [.int .u8 a, .int .u8 b0, .int .u32 x, .int .u32 y] 0 0 false] = H1 at d1 ⊢
  have a1 := ldn_fl d1
  refine L_reg [3, 4, 5, 6] (fun K hK => ?_)
  simp [okFn_low, a1]
  refine made_s a b0 x y 3 true ha hb hx hy (.inl rfl) _ _ (fun r c n s z v1 v2 H2 hr5 hc5 hst hsn hzn hz0 o1 o2 hE2 => ?_)
  simp [hI, hz, hJ, hj, two24 _ o1 o2, two57]
  apply hK; clear hK K
  have d3 : (H2 ++ [AObj.row [.int .i64 r, .int .i64 c, v1, v2] 0 0 false, AObj.row [.int .i64 r, .int .i64 c] 0 0 false])[H2.length]? = some (.row [.int .i64 r, .int .i64 c, v1, v2] 0 0 false) := by simp
  have d4 : (H2 ++ [AObj.row [.int .i64 r, .int .i64 c, v1, v2] 0 0 false, AObj.row [.int .i64 r, .int .i64 c] 0 0 false])[H2.length + 1]? = some (.row [.int .i64 r, .int .i64 c] 0 0 false) := by simp
  replace hst := hst.ext (.push H2 [AObj.row [.int .i64 r, .int .i64 c, v1, v2] 0 0 false, AObj.row [.int .i64 r, .int .i64 c] 0 0 false])
  obtain ⟨p3, hp3⟩ : ∃ p, H2.length = p := ⟨_, rfl⟩
  rw [hp3] at d3 d4 ⊢
  generalize H2 ++ [AObj.row [.int .i64 r, .int .i64 c, v1, v2] 0 0 false, AObj.row [.int .i64 r, .int .i64 c] 0 0 false] = H3 at d3 d4 hst ⊢
  clear hE2 hp3 H2 a1 d1 H1 hzip
  have k1 : v1 ≠ .undef := one_known o1
  have k2 : v2 ≠ .undef := one_known o2
  have hs := hst.hs
  have hn := hst.hn
  have h25 := hs.le
  rw [hn] at h25
  have hs32 := p32 h25 hsn
  have hz32 := p32 h25 hzn
  have hSr : ∀ b, tb s b = true → b < r * c := by rw [hn]; exact hst.hS
  obtain ⟨A, hA⟩ : ∃ A, 2 ^ n - 1 = A := ⟨_, rfl⟩
  obtain ⟨B, hB⟩ : ∃ B, 2 ^ n = B := ⟨_, rfl⟩
  have hp1 : 1 ≤ 2 ^ n := Nat.one_le_two_pow
  have hp2 : 2 ^ n ≤ 33554432 := Nat.le_trans (Nat.pow_le_pow_right (by decide) h25) (by decide)
  have htA : tb A = lt' n := by rw [← hA]; exact lt_tb n
  have hA25 : A < 2 ^ n := by omega
  have hA32 : A < 4294967296 := by omega
  have em : (r : Int) * c = n := by rw [← hn]; simp
  have wn : IntKind.i64.wrap (n : Int) = n := wrap_i64 (by omega)
  have hshl : ∀ tt ll, binV Try.prog .shl tt ll (.int .u32 1) (.int .i64 (n : Int)) = some (.int .u32 ((1 <<< n : Nat) : Int)) := fun tt ll => n_shl32 n (by omega)
  rw [show 1 <<< n = 2 ^ n by rw [Nat.shiftLeft_eq, Nat.one_mul], hB] at hshl
  have wA : IntKind.u32.wrap ((B : Int) - 1) = A := by rw [wrap_u32 (by omega)]; omega
  have f0 := ld_f0 d4
  have f1 := ld_f1 d4
  have a4 := ldn_f d4
  refine L_reg [3, 4, 5, 6, 7] (fun K hK => ?_)
  simp [f0, f1, em, wn, hshl, wA]
  apply hK; clear hK K
  obtain ⟨S, hS⟩ : ∃ S, tb s = S := ⟨_, rfl⟩
  obtain ⟨Z, hZ⟩ : ∃ Z, tb z = Z := ⟨_, rfl⟩
  rw [hS] at hst hSr
  rw [hZ] at hst
  have hls : ∀ (H : AH) (Q : AV → AH → Prop), Q (.int .u32 (mOf (sp r c 2 (opn n Z) S) n : Nat)) H → AC Try.prog 42 [.agg [.int .i64 r, .int .i64 c], .int .u32 s, .int .u32 z] H Q := fun H Q hQ => lspread_q hs hn s z hsn hz32 H Q (by rw [hS, hZ]; exact hQ)
  have hspn : tb (mOf (sp r c 2 (opn n Z) S) n) = sp r c 2 (opn n Z) S := mOf_fun (by rw [← hn]; exact sp_sup hSr)
  have hsp32 : mOf (sp r c 2 (opn n Z) S) n < 4294967296 := p32 h25 (mOf_lt _ (Nat.le_refl _))
  have hout := safe_out (Z := Z) hn hst.hS
  have hap := fun T hT h => safe_apart (T := T) hn h25 hst.hS hT hst.hd h
  generalize mOf (sp r c 2 (opn n Z) S) n = M at hls hspn hsp32
  refine L_reg [3, 4, 5, 6, 7, 8] (fun K hK => ?_)
  simp [okFn_low, a4]
  refine hls _ _ ?_
  simp
  apply hK; clear hK K
  have hadn : ∀ tt ll, binV Try.prog .andNot tt ll (.int .u32 (A : Int)) (.int .u32 (M : Int)) = some (.int .u32 (adn A M : Nat)) := fun tt ll => n_adn A M
  have hadl : adn A M < 4294967296 := BitVec.isLt _
  have hadt : tb (adn A M) = sub' (lt' n) (sp r c 2 (opn n Z) S) := by rw [adn_sub hA32, htA, hspn]
  have hadn2 : ∀ b, sub' (lt' n) (sp r c 2 (opn n Z) S) b = true → b < n := fun b hb => by
    simp only [sub', lt', Bool.and_eq_true, decide_eq_true_eq] at hb
    exact hb.1
  have a3 := ldn4 d3 k1 k2
  have hb1 : ∀ (H : AH) (Q : AV → AH → Prop), Q (lsV H (num (sub' (lt' n) (sp r c 2 (opn n Z) S)))) (lsH H (num (sub' (lt' n) (sp r c 2 (opn n Z) S)))) → AC Try.prog 43 [.int .u32 (adn A M : Nat)] H Q := fun H Q hQ => AC.tidyL (fun Q h => bits_ac _ hadl H Q (by rw [hadt]; exact h)) Q hQ
  have hpr : ∀ (H' : AH) (v : AV) (T : Nat → Bool), Ext H3 H' → Ls H' v (num T) → (∀ b, T b = true → b < n) → ∀ Q : AV → AH → Prop, Q (.int .i64 (if safeS r c n S Z T = true then 0 else 14)) H' → AC Try.prog 32 [.agg [.int .i64 r, .int .i64 c, v1, v2], v] H' Q := fun H' v T hE' hv hT Q hQ => Proves_s (hst.ext hE') hv hT Q hQ
  refine L_regU mixed [true, false, false, false, false] [3, 4, 5, 6, 7, 8, 38] (by kernel_rfl) (fun K hK => ?_)
  simp [okFn_low, a3, hadn]
  refine exX_mk (fun Q hQ => hb1 _ Q hQ) (lsH_ext _ _) ?_
  simp [okFn_low]
  refine exC_mk (fun Q hQ => hpr _ _ _ (lsH_ext _ _) (ownF_ls (lsV_own H3 _ _ (Nat.le_refl _))) hadn2 Q hQ) ?_
  rw [hout]
  simp
  apply hK; clear hK K
  refine L_false (by simp) ?_
  have hX := lsH_ext H3 (num (sub' (lt' n) (sp r c 2 (opn n Z) S)))
  replace d3 := hX.row d3
  replace d4 := hX.row d4
  replace hst := hst.ext hX
  generalize lsH H3 (num (sub' (lt' n) (sp r c 2 (opn n Z) S))) = H4 at d3 d4 hst ⊢
  clear hX hpr hb1 hout hadl hadt hadn hadn2 a3 a4 f0 f1 hls H3
  refine L_reg [3, 4, 5, 6, 7, 8, 9] (fun K hK => ?_)
  simp
  apply hK; clear hK K
  refine L_block (L_loopV [9] (fun q vs H' => ∃ o : Nat, q = A + 1 - o ∧ o ≤ A + 1 ∧ vs = [.int .u32 o] ∧ Ext H4 H') _ [.int .u32 (0 : Nat)] rfl ⟨0, rfl, by omega, rfl, .refl _⟩ ?_)
  rintro q _ H5 ⟨o, rfl, ho, rfl, hE⟩
  replace d3 := hE.row d3
  replace d4 := hE.row d4
  replace hst := hst.ext hE
  refine L_reg [3, 4, 5, 6, 7, 8, 9, 41] (fun K hK => ?_)
  simp
  apply hK; clear hK K
  refine L_dec (o ≤ A) (by simp) (fun hle => ?_) (fun hgt => L_exit ?_)
  case refine_2 =>
    refine L_reg [2] (fun K hK => ?_)
    simp [okFn_low]
    refine works_ac _ _ ?_
    simp
    apply hK; clear hK K
    exact L_ret ⟨.inr rfl, _, rfl, rfl⟩
  refine L_block ?_
  have ho32 : o < 4294967296 := by omega
  have hon : o < 2 ^ n := by omega
  have hand1 : ∀ tt ll, binV Try.prog .and tt ll (.int .u32 (o : Int)) (.int .u32 (s : Int)) = some (.int .u32 ((o &&& s : Nat) : Int)) := fun tt ll => n_and32 o s ho32 hs32
  obtain ⟨q1, hq1⟩ : ∃ q, o &&& s = q := ⟨_, rfl⟩
  have hlaw := safe_law (r := r) (c := c) (n := n) (s := s) (z := z) (o := o) (A := A) htA hA32 hz32 ho32 (tb_lt hon) h25
  rw [hS, hZ, hq1] at hlaw
  rw [hq1] at hand1
  have had1 : ∀ tt ll, binV Try.prog .andNot tt ll (.int .u32 (o : Int)) (.int .u32 (z : Int)) = some (.int .u32 (adn o z : Nat)) := fun tt ll => n_adn o z
  have had2 : ∀ tt ll, binV Try.prog .andNot tt ll (.int .u32 (A : Int)) (.int .u32 (o : Int)) = some (.int .u32 (adn A o : Nat)) := fun tt ll => n_adn A o
  have had3 : ∀ tt ll, binV Try.prog .andNot tt ll (.int .u32 ((adn A o : Nat) : Int)) (.int .u32 (z : Int)) = some (.int .u32 (adn (adn A o) z : Nat)) := fun tt ll => n_adn (adn A o) z
  have l1 : adn o z < 4294967296 := BitVec.isLt _
  have l3 : adn (adn A o) z < 4294967296 := BitVec.isLt _
  have hbits := fun H Q hQ => bits_ac (adn o z) l1 H Q hQ
  have hTn : ∀ b, tb (adn o z) b = true → b < n := fun b hb => by
    rw [adn_sub ho32] at hb
    simp only [sub', Bool.and_eq_true] at hb
    exact tb_lt hon b hb.1
  have hnear := fun b hb H Q hQ => near_q hs hn b hb (adn (adn A o) z) l3 H Q hQ
  obtain ⟨W, hW⟩ : ∃ W, tb (adn o z) = W := ⟨_, rfl⟩
  rw [hW] at hlaw hbits hTn
  generalize adn (adn A o) z = e3 at hlaw had3 l3 hnear
  generalize adn A o = e2 at had2 had3
  generalize adn o z = e1 at had1 l1 hbits hW
  have hz9 : ((q1 : Int) == 0) = decide (q1 = 0) := by by_cases h : q1 = 0 <;> simp [h]
  have hnq : ∀ ll (x y : Bool), binV Try.prog .neq 4 ll (.bool x) (.bool y) = some (.bool (!(x == y))) := fun ll x y => b_neqB Try.underlying4 x y
  refine L_reg [3, 4, 5, 6, 7, 8, 9, 10] (fun K hK => ?_)
  simp [hand1, hz9]
  apply hK; clear hK K
  refine L_reg [3, 4, 5, 6, 7, 8, 9, 10, 51, 52, 53] (fun K hK => ?_)
  simp [okFn_low, had1]
  refine hbits _ _ (fun v H6 hN hE6 => ?_)
  have hv := ownF_ls hN.2
  simp [ls_len hv]
  apply hK; clear hK K hN
  replace d3 := hE6.row d3
  replace d4 := hE6.row d4
  replace hst := hst.ext hE6
  have hE46 := hE.trans hE6
  clear hE hE6 hbits
  have hnl := num_len W
  have a4 := ldn_f d4
  refine L_block (L_loopV [10, 53] (fun q vs H' => ∃ (j : Nat) (t : Bool), q = (num W).length - j ∧ j ≤ (num W).length ∧ vs = [.bool t, .int .i64 j] ∧ H6 = H' ∧ (t && ((num W).drop j).all fun x => decide (bes r c (tb e3) x.toNat < 2)) = safeS r c n S Z (tb o)) _ [.bool (decide (q1 = 0)), .int .i64 (0 : Nat)] (by simp) ⟨0, _, rfl, by omega, rfl, rfl, hlaw⟩ ?_)
  rintro q _ _ ⟨j, t, rfl, hj, rfl, rfl, hall⟩
  refine L_reg [3, 4, 5, 6, 7, 8, 9, 10, 51, 52, 53, 54] (fun K hK => ?_)
  simp
  apply hK; clear hK K
  refine L_dec (j < (num W).length) (by simp) (fun hlt => ?_) (fun hge => L_exit ?_)
  · refine L_block ?_
    obtain ⟨rz, pz, vz, hix, hldz⟩ := ls_ix hv hlt
    obtain ⟨b, hb, hb25, hWb⟩ := num_at hlt
    rw [List.drop_eq_getElem_cons hlt, ← g_lt hlt, hb, List.all_cons, Int.toNat_natCast] at hall
    rw [hb] at hldz
    have hnb := hnear b (hTn b hWb)
    obtain ⟨m, hm⟩ : ∃ m, bes r c (tb e3) b = m := ⟨_, rfl⟩
    rw [hm] at hnb hall
    have eD : decide ((m : Int) < 2) = decide (m < 2) := decide_eq_decide.2 (by omega)
    refine L_reg [3, 4, 5, 6, 7, 8, 9, 10, 12, 51, 52, 53] (fun K hK => ?_)
    simp [hix, hldz]
    apply hK; clear hK K
    refine L_reg [3, 4, 5, 6, 7, 8, 9, 10, 51, 52, 53] (fun K hK => ?_)
    suffices hk : K [(3, .ptr p3 0 0), (4, .ptr (p3 + 1) 0 0), (5, .int .u32 s), (6, .int .u32 z), (7, .int .u32 A), (8, .int .u32 M), (9, .int .u32 o), (10, .bool (t && decide (m < 2))), (51, v), (52, .int .i64 (num W).length), (53, .int .i64 j)] H6 by
      cases t with
      | false =>
        simp [pickV]
        exact hk
      | true =>
        simp [okFn_low, a4, had2, had3]
        refine hnb _ _ ?_
        simp [pickV]
        rw [eD]
        simpa using hk
    apply hK; clear hK K
    refine L_reg [3, 4, 5, 6, 7, 8, 9, 10, 51, 52, 53] (fun K hK => ?_)
    simp [wrap_i64 (a := (j : Int) + 1) (by omega)]
    apply hK; clear hK K
    exact ⟨(num W).length - (j + 1), [.bool (t && decide (m < 2)), .int .i64 (j + 1 : Nat)], by omega, by simp, j + 1, _, rfl, by omega, rfl, rfl, by rw [← hall, Bool.and_assoc]⟩
  have hje : j = (num W).length := by omega
  rw [hje, List.drop_length, List.all_nil, Bool.and_true] at hall
  clear hnear had1 had2 had3 hlaw hand1
  have a3 := ldn4 d3 k1 k2
  have hbo : ∀ (H : AH) (Q : AV → AH → Prop), Q (lsV H (num (tb o))) (lsH H (num (tb o))) → AC Try.prog 43 [.int .u32 o] H Q := fun H Q hQ => AC.tidyL (fun Q h => bits_ac o ho32 H Q h) Q hQ
  have hpr : ∀ (H' : AH) (v : AV) (T : Nat → Bool), Ext H6 H' → Ls H' v (num T) → (∀ b, T b = true → b < n) → ∀ Q : AV → AH → Prop, Q (.int .i64 (if safeS r c n S Z T = true then 0 else 14)) H' → AC Try.prog 32 [.agg [.int .i64 r, .int .i64 c, v1, v2], v] H' Q := fun H' v T hE' hv hT Q hQ => Proves_s (hst.ext hE') hv hT Q hQ
  refine L_regU mixed [true, false, false] [3, 4, 5, 6, 7, 8, 9, 10, 13] (by kernel_rfl) (fun K hK => ?_)
  simp [okFn_low, a3]
  refine exX_mk (fun Q hQ => hbo _ Q hQ) (lsH_ext _ _) ?_
  simp [okFn_low]
  refine exC_mk (fun Q hQ => hpr _ _ _ (lsH_ext _ _) (ownF_ls (lsV_own H6 _ _ (Nat.le_refl _))) (tb_lt hon) Q hQ) ?_
  simp
  apply hK; clear hK K
  have hX := hE46.trans (lsH_ext H6 (num (tb o)))
  have hand2 : ∀ tt ll, binV Try.prog .and tt ll (.int .u32 (o : Int)) (.int .u32 (M : Int)) = some (.int .u32 ((o &&& M : Nat) : Int)) := fun tt ll => n_and32 o M ho32 hsp32
  have wo : IntKind.u32.wrap ((o : Int) + 1) = ((o + 1 : Nat) : Int) := by rw [wrap_u32 (by omega)]; omega
  have hnext : ∀ H7, Ext H4 H7 → ∃ k' < A + 1 - o, True := fun _ _ => ⟨A - o, by omega, trivial⟩
  cases hsf : safeS r c n S Z (tb o) with
  | true =>
    have hz0 : o &&& M = 0 := and_zero.2 fun b hb => by
      rw [hspn]
      exact hap (tb o) (tb_lt hon) hsf b hb
    rw [hsf] at hall
    refine L_reg [3, 4, 5, 6, 7, 8, 9, 94] (fun K hK => ?_)
    simp [hall, hnq, pickV, hand2, hz0]
    apply hK; clear hK K
    refine L_false (by simp) ?_
    refine L_reg [3, 4, 5, 6, 7, 8, 9] (fun K hK => ?_)
    simp [wo]
    apply hK; clear hK K
    exact ⟨A + 1 - (o + 1), [.int .u32 (o + 1 : Nat)], by omega, by simp, o + 1, rfl, by omega, rfl, hX⟩
  | false =>
    rw [hsf] at hall
    refine L_reg [3, 4, 5, 6, 7, 8, 9, 94] (fun K hK => ?_)
    simp [hall, hnq, pickV]
    apply hK; clear hK K
    refine L_false (by simp) ?_
    refine L_reg [3, 4, 5, 6, 7, 8, 9] (fun K hK => ?_)
    simp [wo]
    apply hK; clear hK K
    exact ⟨A + 1 - (o + 1), [.int .u32 (o + 1 : Nat)], by omega, by simp, o + 1, rfl, by omega, rfl, hX⟩
end Go.Proofs.Ytfbpgnjeafadmaa.Fl
