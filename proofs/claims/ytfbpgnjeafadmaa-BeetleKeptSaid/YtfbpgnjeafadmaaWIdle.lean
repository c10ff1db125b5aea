/- Bales that make no difference. -/
import Derived.Test.YtfbpgnjeafadmaaLw
namespace Go.Proofs.Ytfbpgnjeafadmaa.Fl
open Go Go.Proofs.Ytfbpgnjeafadmaa Go.Proofs.Ytfbpgnjeafadmaa.AX
set_option maxRecDepth 100000

theorem adn_upd {s b : Nat} (hs : s < 4294967296) : tb (adn s (1 <<< b)) = upd (tb s) b false := by
  funext x
  show (adn s (1 <<< b)).testBit x = if x = b then false else s.testBit x
  rw [adn_bit hs, bit1]
  by_cases h : x = b
  · subst h; simp
  · rw [if_neg h, decide_eq_false (fun e => h e.symm)]; simp
theorem num_filter (S : Nat → Bool) (p : Nat → Bool) : (num S).filter (fun x => p x.toNat) = num fun b => S b && p b := by
  unfold num
  rw [List.filter_map, List.filter_filter]
  congr 1
  refine List.filter_congr fun b _ => ?_
  simp [Bool.and_comm]
/-- Two spreads are the same number just if they are the same set. -/
theorem sp_same {r c n : Nat} {S Z : Nat → Bool} (hn : r * c = n) (h25 : n ≤ 25) (hS : ∀ b, S b = true → b < n) (b : Nat) : decide (mOf (sp r c 2 (opn n Z) (upd S b false)) n = mOf (sp r c 2 (opn n Z) S) n) = idleB r c n S Z b := by
  have hS2 : ∀ x, upd S b false x = true → x < r * c := by
    intro x hx
    unfold upd at hx
    split at hx
    · cases hx
    · rw [hn]; exact hS x hx
  have g1 : tb (mOf (sp r c 2 (opn n Z) (upd S b false)) n) = sp r c 2 (opn n Z) (upd S b false) := mOf_fun (by rw [← hn]; exact sp_sup hS2)
  have g2 : tb (mOf (sp r c 2 (opn n Z) S) n) = sp r c 2 (opn n Z) S := mOf_fun (by rw [← hn]; exact sp_sup (by rw [hn]; exact hS))
  unfold idleB
  cases h : ((List.range 25).all fun i => sp r c 2 (opn n Z) (upd S b false) i == sp r c 2 (opn n Z) S i) with
  | true =>
    rw [all_eq] at h
    refine decide_eq_true (tb_inj ?_)
    rw [g1, g2]
    funext x
    by_cases hx : x < 25
    · exact h x hx
    · cases h1 : sp r c 2 (opn n Z) (upd S b false) x with
      | true => have := sp_sup hS2 x h1; omega
      | false =>
        cases h2 : sp r c 2 (opn n Z) S x with
        | true => have := sp_sup (by rw [hn]; exact hS) x h2; omega
        | false => rfl
  | false =>
    refine decide_eq_false fun he => ?_
    have he2 : sp r c 2 (opn n Z) (upd S b false) = sp r c 2 (opn n Z) S := by rw [← g1, ← g2, he]
    have : ((List.range 25).all fun i => sp r c 2 (opn n Z) (upd S b false) i == sp r c 2 (opn n Z) S i) = true := all_eq.2 fun x _ => by rw [he2]
    rw [this] at h; cases h
theorem idle_ac (nn : List Int) (e : nn.length = 4) (b : ∀ (i : Nat) (k : IntKind) (x : Int), ([.u8, .u8, .u32, .u32] : List IntKind)[i]? = some k → nn[i]? = some x → k.min ≤ x ∧ x ≤ k.max) (H : AH) : AC Try.prog 14 [.agg (List.zipWith AV.int [.u8, .u8, .u32, .u32] nn)] H fun v _ => v = .bool true := by
  obtain ⟨a, b0, x, y, hzip, ha, hb, hx, hy⟩ := floor_int nn e b
  rw [hzip]
  refine L_body 58 Try.func14 rfl rfl ?_
  obtain ⟨I, hI, hz⟩ := zeroT_some zt24'
  obtain ⟨J, hJ, hj⟩ := zeroT_some zt57
  refine L_reg [1] (fun K hK => ?_)
  simp [AV.isU, acells]
  apply hK; clear hK K
  have d1 : (H ++ [AObj.row [.int .u8 a, .int .u8 b0, .int .u32 x, .int .u32 y] 0 0 false])[H.length]? = some (.row [.int .u8 a, .int .u8 b0, .int .u32 x, .int .u32 y] 0 0 false) := by simp
  generalize H ++ [AObj.row [.int .u8 a, .int .u8 b0, .int .u32 x, .int .u32 y] 0 0 false] = H1 at d1 ⊢
  have a1 := ldn_fl d1
  refine L_reg [3, 4, 5, 6] (fun K hK => ?_)
  simp [okFn_low, a1]
  refine made_s a b0 x y 5 true ha hb hx hy (.inr rfl) _ _ (fun r c n s z v1 v2 H2 hr5 hc5 hst hsn hzn hz0 o1 o2 hE2 => ?_)
  simp [hI, hz, hJ, hj, two24 _ o1 o2, two57]
  apply hK; clear hK K
  have d3 : (H2 ++ [AObj.row [.int .i64 r, .int .i64 c, v1, v2] 0 0 false, AObj.row [.int .i64 r, .int .i64 c] 0 0 false])[H2.length]? = some (.row [.int .i64 r, .int .i64 c, v1, v2] 0 0 false) := by simp
  have d4 : (H2 ++ [AObj.row [.int .i64 r, .int .i64 c, v1, v2] 0 0 false, AObj.row [.int .i64 r, .int .i64 c] 0 0 false])[H2.length + 1]? = some (.row [.int .i64 r, .int .i64 c] 0 0 false) := by simp
  replace hst := hst.ext (.push H2 [AObj.row [.int .i64 r, .int .i64 c, v1, v2] 0 0 false, AObj.row [.int .i64 r, .int .i64 c] 0 0 false])
  obtain ⟨p3, hp3⟩ : ∃ p, H2.length = p := ⟨_, rfl⟩
  rw [hp3] at d3 d4 ⊢
  generalize H2 ++ [AObj.row [.int .i64 r, .int .i64 c, v1, v2] 0 0 false, AObj.row [.int .i64 r, .int .i64 c] 0 0 false] = H3 at d3 d4 hst ⊢
  clear hE2 hp3 H2 a1 d1 H1 hzip
  have k1 : v1 ≠ .undef := one_known o1
  have k2 : v2 ≠ .undef := one_known o2
  have hs := hst.hs
  have hn := hst.hn
  have h25 := hs.le
  rw [hn] at h25
  have hs32 := p32 h25 hsn
  have hz32 := p32 h25 hzn
  have hSr : ∀ b, tb s b = true → b < r * c := by rw [hn]; exact hst.hS
  refine L_reg [3, 4, 5, 6, 7] (fun K hK => ?_)
  simp
  apply hK; clear hK K
  refine L_reg [3, 4, 5, 6, 7, 20, 21, 22] (fun K hK => ?_)
  simp [okFn_low]
  refine bits_ac s hs32 _ _ (fun v H4 hN hE4 => ?_)
  have hv := ownF_ls hN.2
  simp [ls_len hv]
  apply hK; clear hK K hN
  replace d3 := hE4.row d3
  replace d4 := hE4.row d4
  replace hst := hst.ext hE4
  clear hE4
  have hnl := num_len (tb s)
  obtain ⟨S, hS⟩ : ∃ S, tb s = S := ⟨_, rfl⟩
  obtain ⟨Z, hZ⟩ : ∃ Z, tb z = Z := ⟨_, rfl⟩
  rw [hS] at hv hnl hst hSr
  rw [hZ] at hst
  have hSn : ∀ b, S b = true → b < n := hst.hS
  refine L_block (L_loopV [7, 22] (fun q vs H' => ∃ (j : Nat) (u : AV), q = (num S).length - j ∧ j ≤ (num S).length ∧ vs = [u, .int .i64 j] ∧ Ext H4 H' ∧ OwnF H4.length H' u ((((num S).take j).filter fun x => idleB r c n S Z x.toNat).map (.int .i64))) _ [.slice none 0 0 0 1 false, .int .i64 (0 : Nat)] rfl ⟨0, _, rfl, by omega, rfl, .refl _, OwnF.nil _ _⟩ ?_)
  rintro q _ H5 ⟨j, u, rfl, hj, rfl, hE, hO⟩
  refine L_reg [3, 4, 5, 6, 7, 20, 21, 22, 23] (fun K hK => ?_)
  simp
  apply hK; clear hK K
  refine L_dec (j < (num S).length) (by simp [hS]) (fun hlt => ?_) (fun hge => L_exit ?_)
  · refine L_block ?_
    obtain ⟨rz, pz, vz, hix, hldz⟩ := ls_ix (hv.ext hE) hlt
    obtain ⟨d, hd, hd25, hSd⟩ := num_at hlt
    rw [hd] at hldz
    have hdn := hSn d hSd
    have a4 := ldn_f (hE.row d4)
    have hshl : ∀ tt ll, binV Try.prog .shl tt ll (.int .u32 1) (.int .i64 (d : Int)) = some (.int .u32 ((1 <<< d : Nat) : Int)) := fun tt ll => n_shl32 d (by omega)
    obtain ⟨sh, hsh⟩ : ∃ sh, 1 <<< d = sh := ⟨_, rfl⟩
    have hadn : ∀ tt ll, binV Try.prog .andNot tt ll (.int .u32 (s : Int)) (.int .u32 (sh : Int)) = some (.int .u32 (adn s sh : Nat)) := fun tt ll => n_adn s sh
    have had : tb (adn s sh) = upd S d false := by rw [← hsh, adn_upd hs32, hS]
    have hadl : adn s sh < 2 ^ n := adn_lt hs32 hsn
    simp only [hsh] at hshl
    have hq1 : ∀ (H : AH) (Q : AV → AH → Prop), Q (.int .u32 (mOf (sp r c 2 (opn n Z) (upd S d false)) n : Nat)) H → AC Try.prog 42 [.agg [.int .i64 r, .int .i64 c], .int .u32 (adn s sh : Nat), .int .u32 z] H Q := fun H Q hQ => lspread_q hs hn _ z hadl hz32 H Q (by rw [had, hZ]; exact hQ)
    have hq2 : ∀ (H : AH) (Q : AV → AH → Prop), Q (.int .u32 (mOf (sp r c 2 (opn n Z) S) n : Nat)) H → AC Try.prog 42 [.agg [.int .i64 r, .int .i64 c], .int .u32 s, .int .u32 z] H Q := fun H Q hQ => lspread_q hs hn s z hsn hz32 H Q (by rw [hS, hZ]; exact hQ)
    have hsame := sp_same (Z := Z) hn h25 hSn d
    generalize mOf (sp r c 2 (opn n Z) (upd S d false)) n = A at hq1 hsame
    generalize mOf (sp r c 2 (opn n Z) S) n = B at hq2 hsame
    have htk : (((num S).take (j + 1)).filter fun x => idleB r c n S Z x.toNat) = (((num S).take j).filter fun x => idleB r c n S Z x.toNat) ++ if idleB r c n S Z d then [(d : Int)] else [] := by
      rw [List.take_add_one, List.getElem?_eq_getElem hlt, ← g_lt hlt, hd, List.filter_append]
      congr 1
      cases h : idleB r c n S Z d <;> simp [h]
    refine L_reg [3, 4, 5, 6, 7, 9, 20, 21, 22] (fun K hK => ?_)
    simp [hix, hldz]
    apply hK; clear hK K
    refine L_regZ mixed [] [0, 0, 0, 0, 0, 0, 0, 1, 0, 0, 0] [] [3, 4, 5, 6, 7, 9, 20, 21, 22, 37] (by kernel_rfl) (fun K hK => ?_)
    simp [okFn_low, a4, hshl, hadn]
    refine exX_mk (fun Q hQ => hq1 _ Q hQ) (.refl _) ?_
    simp [okFn_low, a4]
    refine exX_mk (fun Q hQ => hq2 _ Q hQ) (.refl _) ?_
    simp
    apply hK; clear hK K
    by_cases hAB : A = B
    · rw [decide_eq_true hAB] at hsame
      rw [← hsame, if_pos rfl] at htk
      have hll : ((((num S).take j).filter fun x => idleB r c n S Z x.toNat).map (AV.int .i64)).length < 16777216 := by
        rw [List.length_map]
        have h1 := List.length_filter_le (fun x => idleB r c n S Z x.toNat) ((num S).take j)
        have h2 := List.length_take_le j (num S)
        omega
      obtain ⟨u', H6, happ, hO6, hE6⟩ := ownF_append (P := Try.prog) hE el22 el22 (x := .int .i64 d) (m := 1) hO rfl hll
      refine L_true (by simp [hAB]) ?_
      refine L_reg [3, 4, 5, 6, 7, 20, 21, 22] (fun K hK => ?_)
      simp [happ]
      apply hK; clear hK K
      refine L_reg [3, 4, 5, 6, 7, 20, 21, 22] (fun K hK => ?_)
      simp [wrap_i64 (a := (j : Int) + 1) (by omega)]
      apply hK; clear hK K
      refine ⟨(num S).length - (j + 1), [u', .int .i64 (j + 1 : Nat)], by omega, by simp, j + 1, u', rfl, by omega, rfl, hE6, ?_⟩
      rw [htk, List.map_append]
      exact hO6
    · rw [decide_eq_false hAB] at hsame
      rw [← hsame, if_neg (by decide), List.append_nil] at htk
      refine L_false (by simp; omega) ?_
      refine L_reg [3, 4, 5, 6, 7, 20, 21, 22] (fun K hK => ?_)
      simp [wrap_i64 (a := (j : Int) + 1) (by omega)]
      apply hK; clear hK K
      exact ⟨(num S).length - (j + 1), [u, .int .i64 (j + 1 : Nat)], by omega, by simp, j + 1, u, rfl, by omega, rfl, hE, by rw [htk]; exact hO⟩
  · have hje : j = (num S).length := by omega
    rw [hje, List.take_length, num_filter S (idleB r c n S Z)] at hO
    replace hst := hst.ext hE
    have a3 := ldn4 (hE.row d3) k1 k2
    have hu := ownF_ls hO
    refine L_reg [7, 10, 11] (fun K hK => ?_)
    simp [okFn_low, a3]
    refine Idle_s hst _ (fun v' H6 hN hE6 => ?_)
    simp
    apply hK; clear hK K
    have hl2 := num_len fun b => S b && idleB r c n S Z b
    refine L_reg [2] (fun K hK => ?_)
    simp [okFn_low]
    refine same_q _ _ _ _ _ _ (ownF_ls hN.2) (hu.ext hE6) (by omega) (by omega) ?_
    simp [okFn_low, pickV]
    refine works_ac _ _ ?_
    simp [pickV]
    apply hK; clear hK K
    exact L_ret ⟨.inr rfl, _, rfl, rfl⟩
end Go.Proofs.Ytfbpgnjeafadmaa.Fl
