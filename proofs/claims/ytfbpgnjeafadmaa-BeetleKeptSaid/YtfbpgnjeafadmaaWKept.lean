/- The fewest bales to be frozen: all sets are tried. -/
import Derived.Test.YtfbpgnjeafadmaaKeptB
namespace Go.Proofs.Ytfbpgnjeafadmaa.Fl
open Go Go.Proofs.Ytfbpgnjeafadmaa Go.Proofs.Ytfbpgnjeafadmaa.AX
set_option maxRecDepth 100000

theorem u8_of {a : Int} (w : (Lit.int .u8 a).wf = true) : ∃ n : Nat, a = n ∧ n < 256 := by
  have h : IntKind.u8.min ≤ a ∧ a ≤ IntKind.u8.max := by simpa [Lit.wf] using w
  have h1 : IntKind.u8.min = 0 := rfl
  have h2 : IntKind.u8.max = 255 := rfl
  exact ⟨a.toNat, by omega, by omega⟩
set_option maxHeartbeats 4000000 in
theorem kept_ac (nn : List Int) (e : nn.length = 4) (b : ∀ (i : Nat) (k : IntKind) (x : Int), ([.u8, .u8, .u32, .u32] : List IntKind)[i]? = some k → nn[i]? = some x → k.min ≤ x ∧ x ≤ k.max) (one : Int) (hone : 0 ≤ one ∧ one < 256) (H : AH) : AC Try.prog 11 [.agg (List.zipWith AV.int [.u8, .u8, .u32, .u32] nn), .int .u8 one] H fun v _ => v = .bool true := by
  obtain ⟨q, rfl⟩ : ∃ q : Nat, one = q := ⟨one.toNat, by omega⟩
  have hq : q < 256 := by omega
  obtain ⟨a, b0, x, y, hzip, ha, hb, hx, hy⟩ := floor_int nn e b
  rw [hzip]
  refine L_body 122 Try.func11 rfl rfl ?_
  obtain ⟨I, hI, hz⟩ := zeroT_some zt24'
  obtain ⟨J, hJ, hj⟩ := zeroT_some zt57
  refine L_reg [1, 2] (fun K hK => ?_)
  simp [AV.isU, acells]
  apply hK; clear hK K
  have d1 : (H ++ [AObj.row [.int .u8 a, .int .u8 b0, .int .u32 x, .int .u32 y] 0 0 false])[H.length]? = some (.row [.int .u8 a, .int .u8 b0, .int .u32 x, .int .u32 y] 0 0 false) := by simp
  generalize H ++ [AObj.row [.int .u8 a, .int .u8 b0, .int .u32 x, .int .u32 y] 0 0 false] = H1 at d1 ⊢
  have a1 := ldn_fl d1
  refine L_reg [1, 5, 6, 7, 8] (fun K hK => ?_)
  simp [okFn_low, a1]
  refine made_s a b0 x y 3 true ha hb hx hy (.inl rfl) _ _ (fun r c n s z v1 v2 H2 hr5 hc5 hst hsn hzn hz0 o1 o2 hE2 => ?_)
  simp [hI, hz, hJ, hj, two24 _ o1 o2, two57]
  apply hK; clear hK K
  have d3 : (H2 ++ [AObj.row [.int .i64 r, .int .i64 c, v1, v2] 0 0 false, AObj.row [.int .i64 r, .int .i64 c] 0 0 false])[H2.length]? = some (.row [.int .i64 r, .int .i64 c, v1, v2] 0 0 false) := by simp
  have d4 : (H2 ++ [AObj.row [.int .i64 r, .int .i64 c, v1, v2] 0 0 false, AObj.row [.int .i64 r, .int .i64 c] 0 0 false])[H2.length + 1]? = some (.row [.int .i64 r, .int .i64 c] 0 0 false) := by simp
  replace hst := hst.ext (.push H2 [AObj.row [.int .i64 r, .int .i64 c, v1, v2] 0 0 false, AObj.row [.int .i64 r, .int .i64 c] 0 0 false])
  obtain ⟨p3, hp3⟩ : ∃ p, H2.length = p := ⟨_, rfl⟩
  rw [hp3] at d3 d4 ⊢
  generalize H2 ++ [AObj.row [.int .i64 r, .int .i64 c, v1, v2] 0 0 false, AObj.row [.int .i64 r, .int .i64 c] 0 0 false] = H3 at d3 d4 hst ⊢
  clear hE2 hp3 H2 a1 d1 H1 hzip
  have k1 : v1 ≠ .undef := one_known o1
  have k2 : v2 ≠ .undef := one_known o2
  have hs := hst.hs
  have hn := hst.hn
  have h25 := hs.le
  rw [hn] at h25
  have hs32 := p32 h25 hsn
  have hz32 := p32 h25 hzn
  have hSr : ∀ b, tb s b = true → b < r * c := by rw [hn]; exact hst.hS
  have hp1 : 1 ≤ 2 ^ n := Nat.one_le_two_pow
  have hp2 : 2 ^ n ≤ 33554432 := Nat.le_trans (Nat.pow_le_pow_right (by decide) h25) (by decide)
  have htA : tb (2 ^ n - 1) = lt' n := lt_tb n
  obtain ⟨B, hB⟩ : ∃ B, 2 ^ n = B := ⟨_, rfl⟩
  obtain ⟨A, hA⟩ : ∃ A, B - 1 = A := ⟨_, rfl⟩
  rw [hB, hA] at htA
  have hA32 : A < 4294967296 := by omega
  have em : (r : Int) * c = n := by rw [← hn]; simp
  have wn : IntKind.i64.wrap (n : Int) = n := wrap_i64 (by omega)
  have hshl : ∀ tt ll, binV Try.prog .shl tt ll (.int .u32 1) (.int .i64 (n : Int)) = some (.int .u32 ((1 <<< n : Nat) : Int)) := fun tt ll => n_shl32 n (by omega)
  rw [show 1 <<< n = 2 ^ n by rw [Nat.shiftLeft_eq, Nat.one_mul], hB] at hshl
  have wA : IntKind.u32.wrap ((B : Int) - 1) = A := by rw [wrap_u32 (by omega)]; omega
  have hn1 : 1 ≤ n := by
    rw [← hn]
    exact Nat.mul_pos hs.r1 hs.c1
  have hn0 : (n : Int) ≠ 0 := by omega
  have hn0' : n ≠ 0 := by omega
  have rq := rem_nat q n
  have hkn : q % n < n := Nat.mod_lt _ hn1
  obtain ⟨k, hk⟩ : ∃ k, q % n = k := ⟨_, rfl⟩
  rw [hk] at rq hkn
  have wq : IntKind.i64.wrap (q : Int) = q := wrap_i64 (by omega)
  have wk : IntKind.i64.wrap (k : Int) = k := wrap_i64 (by omega)
  have f0 := ld_f0 d4
  have f1 := ld_f1 d4
  have a4 := ldn_f d4
  refine L_reg [1, 5, 6, 7, 8, 9] (fun K hK => ?_)
  simp [f0, f1, em, wn, hshl, wA]
  apply hK; clear hK K
  refine L_reg [5, 6, 7, 8, 9, 10] (fun K hK => ?_)
  simp [f0, f1, em, wn, wq, hn0', rq]
  apply hK; clear hK K
  have hfr := free_is (k := k) (s := s) (z := z) htA hA32 h25
  have hshk : ∀ tt ll, binV Try.prog .shl tt ll (.int .u32 1) (.int .i64 (k : Int)) = some (.int .u32 ((1 <<< k : Nat) : Int)) := fun tt ll => n_shl32 k (by omega)
  obtain ⟨kb, hkb⟩ : ∃ kb, 1 <<< k = kb := ⟨_, rfl⟩
  rw [hkb] at hfr
  simp only [hkb] at hshk
  have n1 : ∀ tt ll, binV Try.prog .andNot tt ll (.int .u32 (A : Int)) (.int .u32 (s : Int)) = some (.int .u32 (adn A s : Nat)) := fun tt ll => n_adn A s
  have n2 : ∀ tt ll, binV Try.prog .andNot tt ll (.int .u32 (adn A s : Nat)) (.int .u32 (z : Int)) = some (.int .u32 (adn (adn A s) z : Nat)) := fun tt ll => n_adn _ z
  have n3 : ∀ tt ll, binV Try.prog .andNot tt ll (.int .u32 (adn (adn A s) z : Nat)) (.int .u32 (kb : Int)) = some (.int .u32 (adn (adn (adn A s) z) kb : Nat)) := fun tt ll => n_adn _ kb
  refine L_reg [5, 6, 7, 8, 9, 10, 11] (fun K hK => ?_)
  simp [n1, n2, n3, hshk]
  apply hK; clear hK K
  clear n1 n2 n3 hshk hshl wA
  generalize adn (adn (adn A s) z) kb = fr at hfr ⊢
  refine L_reg [5, 6, 7, 8, 9, 10, 11, 12] (fun K hK => ?_)
  simp
  apply hK; clear hK K
  refine L_reg [5, 6, 7, 8, 9, 10, 11, 12, 13] (fun K hK => ?_)
  simp
  apply hK; clear hK K
  refine L_reg [5, 6, 7, 8, 9, 10, 11, 12, 13, 14] (fun K hK => ?_)
  simp
  apply hK; clear hK K
  obtain ⟨S, hS⟩ : ∃ S, tb s = S := ⟨_, rfl⟩
  obtain ⟨Z, hZ⟩ : ∃ Z, tb z = Z := ⟨_, rfl⟩
  rw [hS, hZ] at hst hfr
  rw [hS] at hSr
  refine L_block (L_loopV [12, 13, 14] (fun m vs H' => ∃ (o : Nat) (fd : Bool) (wv : AV) (W : List Int), m = B - o ∧ o ≤ B ∧ vs = [.bool fd, wv, .int .u32 o] ∧ Ext H3 H' ∧ Ls H' wv W ∧ BestK (admK r c n S Z k) o fd W) _ [.bool false, .slice none 0 0 0 1 false, .int .u32 (0 : Nat)] rfl ⟨0, false, _, [], rfl, by omega, rfl, .refl _, Ls.nil _, .inl ⟨rfl, rfl, fun x hx => by omega⟩⟩ ?_)
  rintro m _ H4 ⟨o, fd, wv, W, rfl, ho, rfl, hE4, hLW, hbest⟩
  refine L_reg [5, 6, 7, 8, 9, 10, 11, 12, 13, 14, 50] (fun K hK => ?_)
  simp
  apply hK; clear hK K
  refine L_dec (o ≤ A) (by simp) (fun hle => ?_) (fun hgt => L_exit ?_)
  case refine_2 =>
    obtain rfl : o = B := by omega
    rw [← hB] at hbest
    have a5 := ldn4 (hE4.row d3) k1 k2
    replace hst := hst.ext hE4
    refine L_reg [12, 13, 16, 17] (fun K hK => ?_)
    simp [okFn_low, a5]
    refine Keep_s hst hkn _ (fun hno H7 hE7 => ?_) (fun U hU v H7 hv hE7 => ?_)
    · simp
      apply hK; clear hK K
      cases fd with
      | true =>
        obtain ⟨y, -, h2, -⟩ := best_some hbest
        exact absurd h2 (hno _)
      | false =>
      refine L_reg [13, 16, 17, 101] (fun K hK => ?_)
      simp
      apply hK; clear hK K
      refine L_true (by simp) ?_
      refine L_reg [4] (fun K hK => ?_)
      simp [okFn_low, pickV, ls_len (Ls.nil H7)]
      refine works_ac _ _ ?_
      simp [pickV]
      apply hK; clear hK K
      exact L_ret ⟨.inr rfl, _, rfl, rfl⟩
    · simp
      apply hK; clear hK K
      cases fd with
      | false => exact absurd hU (best_none hbest U)
      | true =>
      obtain ⟨y, rfl, h2, h3⟩ := best_some hbest
      have hN := hv _ h2 h3
      have hl1 := num_len (tb y)
      refine L_reg [13, 16, 17, 101] (fun K hK => ?_)
      simp
      apply hK; clear hK K
      refine L_false (by simp) ?_
      refine L_reg [4] (fun K hK => ?_)
      simp [okFn_low]
      refine same_q _ _ _ _ _ _ (ownF_ls hN.2) (hLW.ext hE7) (by omega) (by omega) ?_
      simp [okFn_low, pickV]
      refine works_ac _ _ ?_
      simp [pickV]
      apply hK; clear hK K
      exact L_ret ⟨.inr rfl, _, rfl, rfl⟩
  have hon : o < 2 ^ n := by omega
  have ho32 := p32 h25 hon
  have wo : IntKind.u32.wrap ((o : Int) + 1) = ((o + 1 : Nat) : Int) := by rw [wrap_u32 (by omega)]; omega
  obtain ⟨hWr, hWl⟩ := best_rng hbest
  refine L_block ?_
  refine L_reg [5, 6, 7, 8, 9, 10, 11, 12, 13, 14, 15] (fun K hK => ?_)
  simp [okFn_low]
  refine bits_ac o ho32 _ _ (fun w H7 hN hE7 => ?_)
  simp
  apply hK; clear hK K
  have hw := ownF_ls hN.2
  have hwl := ls_len hw
  have hE37 := hE4.trans hE7
  have hL7 := hLW.ext hE7
  have hWlen := ls_len hL7
  have a47 := ldn_f (hE37.row d4)
  clear hN hE4 hE7 hLW
  have hnlo := num_len (tb o)
  have hadn : ∀ tt ll, binV Try.prog .andNot tt ll (.int .u32 (o : Int)) (.int .u32 (fr : Int)) = some (.int .u32 (adn o fr : Nat)) := fun tt ll => n_adn o fr
  have hzo : z ||| o < 4294967296 := p32 h25 (Nat.or_lt_two_pow hzn hon)
  have hiff := adm_iff (r := r) (c := c) (S := S) (Z := Z) ho32 hfr
  have hor : ∀ tt ll, binV Try.prog .or tt ll (.int .u32 (z : Int)) (.int .u32 (o : Int)) = some (.int .u32 ((z ||| o : Nat) : Int)) := fun tt ll => n_or32 z o hz32 ho32
  have hsq : ∀ (H : AH) (Q : AV → AH → Prop), Q (.int .u32 (mOf (sp r c 2 (opn n (or' Z (tb o))) S) n : Nat)) H → AC Try.prog 42 [.agg [.int .i64 r, .int .i64 c], .int .u32 s, .int .u32 (z ||| o : Nat)] H Q := fun H Q hQ => lspread_q hs hn s (z ||| o) hsn hzo H Q (by rw [or_tb, hS, hZ]; exact hQ)
  generalize z ||| o = zo at hor hsq hzo
  have hMf : tb (mOf (sp r c 2 (opn n (or' Z (tb o))) S) n) = sp r c 2 (opn n (or' Z (tb o))) S := mOf_fun (by rw [← hn]; exact sp_sup hSr)
  have hM32 : mOf (sp r c 2 (opn n (or' Z (tb o))) S) n < 4294967296 := p32 h25 (mOf_lt _ (Nat.le_refl _))
  have hfit : fitK r c n S Z k (tb o) = !tb (mOf (sp r c 2 (opn n (or' Z (tb o))) S) n) k := by rw [hMf]; rfl
  clear hMf
  generalize mOf (sp r c 2 (opn n (or' Z (tb o))) S) n = M at hsq hM32 hfit
  have hk32 : k < 32 := by omega
  by_cases c1 : adn o fr = 0
  case neg =>
    have c1b : (((adn o fr : Nat) : Int) == 0) = false := by
      cases h : ((adn o fr : Nat) : Int) == 0 with
      | false => rfl
      | true => exact absurd (by have := eq_of_beq h; omega) c1
    have c1c : (((adn o fr : Nat) : Int) != 0) = true := by unfold bne; rw [c1b]; rfl
    refine L_reg [5, 6, 7, 8, 9, 10, 11, 12, 13, 14, 15, 70] (fun K hK => ?_)
    simp [hadn, c1c, pickV]
    apply hK; clear hK K
    refine L_true (by simp) ?_
    refine L_exit ?_
    refine L_reg [5, 6, 7, 8, 9, 10, 11, 12, 13, 14] (fun K hK => ?_)
    simp [wo]
    apply hK; clear hK K
    exact ⟨B - (o + 1), [.bool fd, wv, .int .u32 (o + 1 : Nat)], by omega, by simp, o + 1, fd, wv, W, rfl, by omega, rfl, hE37, hL7, best_no hbest fun h => c1 (hiff.1 h).1⟩
  obtain ⟨b, hb⟩ : ∃ b, M.testBit k = b := ⟨_, rfl⟩
  rw [show tb M k = b from hb] at hfit
  cases b with
  | true =>
    refine L_reg [5, 6, 7, 8, 9, 10, 11, 12, 13, 14, 15, 70] (fun K hK => ?_)
    simp [okFn_low, hadn, c1, a47, hor]
    refine hsq _ _ ?_
    simp [n_shr' (k := .u32) M k (by simp [IntKind.bits]; omega), bit32 M k hM32, hb, b1, pickV]
    apply hK; clear hK K
    refine L_true (by simp) ?_
    refine L_exit ?_
    refine L_reg [5, 6, 7, 8, 9, 10, 11, 12, 13, 14] (fun K hK => ?_)
    simp [wo]
    apply hK; clear hK K
    exact ⟨B - (o + 1), [.bool fd, wv, .int .u32 (o + 1 : Nat)], by omega, by simp, o + 1, fd, wv, W, rfl, by omega, rfl, hE37, hL7, best_no hbest fun h => by have := (hiff.1 h).2; rw [hfit] at this; cases this⟩
  | false =>
  have hadm : admK r c n S Z k (tb o) := hiff.2 ⟨c1, hfit⟩
  refine L_reg [5, 6, 7, 8, 9, 10, 11, 12, 13, 14, 15, 70] (fun K hK => ?_)
  simp [okFn_low, hadn, c1, a47, hor]
  refine hsq _ _ ?_
  simp [n_shr' (k := .u32) M k (by simp [IntKind.bits]; omega), bit32 M k hM32, hb, b1, pickV]
  apply hK; clear hK K
  refine L_false (by simp) ?_
  clear hsq hor hadn hiff hfit hM32 hb
  cases fd with
  | false =>
    refine L_reg [5, 6, 7, 8, 9, 10, 11, 12, 13, 14, 15, 92] (fun K hK => ?_)
    simp [pickV]
    apply hK; clear hK K
    refine L_true (by simp) ?_
    refine L_reg [5, 6, 7, 8, 9, 10, 11, 12, 13, 14] (fun K hK => ?_)
    simp
    apply hK; clear hK K
    refine L_reg [5, 6, 7, 8, 9, 10, 11, 12, 13, 14] (fun K hK => ?_)
    simp [wo]
    apply hK; clear hK K
    exact ⟨B - (o + 1), [.bool true, w, .int .u32 (o + 1 : Nat)], by omega, by simp, o + 1, true, w, _, rfl, by omega, rfl, hE37, hw, best_take hbest hadm fun h => by cases h⟩
  | true =>
  have hcq := fun H (h1 : Ls H w (num (tb o))) (h2 : Ls H wv W) Q hQ => Compare_q w wv (num (tb o)) W H Q h1 h2 (fun x hx => by
    obtain ⟨b, h1, -, rfl⟩ := mem_num.1 hx
    omega) hWr (by omega) (by omega) hQ
  obtain ⟨lb, hlb⟩ : ∃ x, (num (tb o)).length = x := ⟨_, rfl⟩
  obtain ⟨lw, hlw⟩ : ∃ x, W.length = x := ⟨_, rfl⟩
  obtain ⟨lx, hlx⟩ : ∃ x, lexI (num (tb o)) W = x := ⟨_, rfl⟩
  rw [hlx] at hcq
  have hlt : ltL (num (tb o)) W = (decide (lb < lw) || (decide (lb = lw) && decide (lx < 0))) := by unfold ltL; rw [hlb, hlw, hlx]
  rw [hlb] at hwl
  rw [hlw] at hWlen
  by_cases c2 : lb < lw
  · refine L_reg [5, 6, 7, 8, 9, 10, 11, 12, 13, 14, 15, 92] (fun K hK => ?_)
    simp [pickV, hwl, hWlen, c2]
    apply hK; clear hK K
    refine L_true (by simp) ?_
    refine L_reg [5, 6, 7, 8, 9, 10, 11, 12, 13, 14] (fun K hK => ?_)
    simp
    apply hK; clear hK K
    refine L_reg [5, 6, 7, 8, 9, 10, 11, 12, 13, 14] (fun K hK => ?_)
    simp [wo]
    apply hK; clear hK K
    exact ⟨B - (o + 1), [.bool true, w, .int .u32 (o + 1 : Nat)], by omega, by simp, o + 1, true, w, _, rfl, by omega, rfl, hE37, hw, best_take hbest hadm fun _ => by rw [hlt]; simp [c2]⟩
  by_cases c3 : lb = lw
  · subst c3
    refine L_reg [5, 6, 7, 8, 9, 10, 11, 12, 13, 14, 15, 92] (fun K hK => ?_)
    suffices hk : K [(5, .ptr p3 0 0), (6, .ptr (p3 + 1) 0 0), (7, .int .u32 s), (8, .int .u32 z), (9, .int .u32 A), (10, .int .i64 k), (11, .int .u32 fr), (12, .bool true), (13, wv), (14, .int .u32 o), (15, w), (92, .bool (decide (lx < 0)))] H7 by
      simp (maxSteps := 1000000) [okFn_low, hwl, hWlen, pickV]
      refine hcq _ hw hL7 _ ?_
      simp [pickV]
      exact hk
    apply hK; clear hK K
    by_cases c4 : lx < 0
    · refine L_true (by simp [c4]) ?_
      refine L_reg [5, 6, 7, 8, 9, 10, 11, 12, 13, 14] (fun K hK => ?_)
      simp
      apply hK; clear hK K
      refine L_reg [5, 6, 7, 8, 9, 10, 11, 12, 13, 14] (fun K hK => ?_)
      simp [wo]
      apply hK; clear hK K
      exact ⟨B - (o + 1), [.bool true, w, .int .u32 (o + 1 : Nat)], by omega, by simp, o + 1, true, w, _, rfl, by omega, rfl, hE37, hw, best_take hbest hadm fun _ => by rw [hlt]; simp [c4]⟩
    · refine L_false (by simp; omega) ?_
      refine L_reg [5, 6, 7, 8, 9, 10, 11, 12, 13, 14] (fun K hK => ?_)
      simp [wo]
      apply hK; clear hK K
      exact ⟨B - (o + 1), [.bool true, wv, .int .u32 (o + 1 : Nat)], by omega, by simp, o + 1, true, wv, W, rfl, by omega, rfl, hE37, hL7, best_keep hbest (by rw [hlt]; simp [c4])⟩
  · have c3' : ((lb : Int) == (lw : Int)) = false := by
      cases h : (lb : Int) == (lw : Int) with
      | false => rfl
      | true => exact absurd (by have := eq_of_beq h; omega) c3
    refine L_reg [5, 6, 7, 8, 9, 10, 11, 12, 13, 14, 15, 92] (fun K hK => ?_)
    simp [pickV, hwl, hWlen, c2, c3']
    apply hK; clear hK K
    refine L_false (by simp) ?_
    refine L_reg [5, 6, 7, 8, 9, 10, 11, 12, 13, 14] (fun K hK => ?_)
    simp [wo]
    apply hK; clear hK K
    exact ⟨B - (o + 1), [.bool true, wv, .int .u32 (o + 1 : Nat)], by omega, by simp, o + 1, true, wv, W, rfl, by omega, rfl, hE37, hL7, best_keep hbest (by rw [hlt]; simp [c2, c3])⟩
end Go.Proofs.Ytfbpgnjeafadmaa.Fl
