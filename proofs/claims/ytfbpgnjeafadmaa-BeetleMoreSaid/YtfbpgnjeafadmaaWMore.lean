/- More beetles, or less frozen bales. -/
import Derived.Test.YtfbpgnjeafadmaaMoreF
namespace Go.Proofs.Ytfbpgnjeafadmaa.Fl
open Go Go.Proofs.Ytfbpgnjeafadmaa Go.Proofs.Ytfbpgnjeafadmaa.AX
set_option maxRecDepth 100000

theorem u8_in {a : Int} (w : (Lit.int .u8 a).wf = true) : 0 ≤ a ∧ a < 256 := by
  have h : IntKind.u8.min ≤ a ∧ a ≤ IntKind.u8.max := by simpa [Lit.wf] using w
  have h1 : IntKind.u8.min = 0 := rfl
  have h2 : IntKind.u8.max = 255 := rfl
  omega
set_option maxHeartbeats 4000000 in
theorem more_ac (nn : List Int) (e : nn.length = 4) (b : ∀ (i : Nat) (k : IntKind) (x : Int), ([.u8, .u8, .u32, .u32] : List IntKind)[i]? = some k → nn[i]? = some x → k.min ≤ x ∧ x ≤ k.max) (one two : Int) (hone : 0 ≤ one ∧ one < 256) (htwo : 0 ≤ two ∧ two < 256) (H : AH) : AC Try.prog 12 [.agg (List.zipWith AV.int [.u8, .u8, .u32, .u32] nn), .int .u8 one, .int .u8 two] H fun v _ => v = .bool true := by
  obtain ⟨q, rfl⟩ : ∃ q : Nat, one = q := ⟨one.toNat, by omega⟩
  obtain ⟨q2, rfl⟩ : ∃ q : Nat, two = q := ⟨two.toNat, by omega⟩
  have hq : q < 256 := by omega
  have hq2 : q2 < 256 := by omega
  obtain ⟨a, b0, x, y, hzip, ha, hb, hx, hy⟩ := floor_int nn e b
  rw [hzip]
  refine L_body 137 Try.func12 rfl rfl ?_
  obtain ⟨I, hI, hz⟩ := zeroT_some zt24'
  obtain ⟨J, hJ, hj⟩ := zeroT_some zt57
  refine L_reg [1, 2, 3] (fun K hK => ?_)
  simp [AV.isU, acells]
  apply hK; clear hK K
  have d1 : (H ++ [AObj.row [.int .u8 a, .int .u8 b0, .int .u32 x, .int .u32 y] 0 0 false])[H.length]? = some (.row [.int .u8 a, .int .u8 b0, .int .u32 x, .int .u32 y] 0 0 false) := by simp
  generalize H ++ [AObj.row [.int .u8 a, .int .u8 b0, .int .u32 x, .int .u32 y] 0 0 false] = H1 at d1 ⊢
  have a1 := ldn_fl d1
  refine L_reg [1, 2, 7, 8, 9, 10] (fun K hK => ?_)
  simp [okFn_low, a1]
  refine made_s a b0 x y 5 true ha hb hx hy (.inr rfl) _ _ (fun r c n s z v1 v2 H2 hr5 hc5 hst hsn hzn hz0 o1 o2 hE2 => ?_)
  simp [hI, hz, hJ, hj, two24 _ o1 o2, two57]
  apply hK; clear hK K
  have d3 : (H2 ++ [AObj.row [.int .i64 r, .int .i64 c, v1, v2] 0 0 false, AObj.row [.int .i64 r, .int .i64 c] 0 0 false])[H2.length]? = some (.row [.int .i64 r, .int .i64 c, v1, v2] 0 0 false) := by simp
  have d4 : (H2 ++ [AObj.row [.int .i64 r, .int .i64 c, v1, v2] 0 0 false, AObj.row [.int .i64 r, .int .i64 c] 0 0 false])[H2.length + 1]? = some (.row [.int .i64 r, .int .i64 c] 0 0 false) := by simp
  replace hst := hst.ext (.push H2 [AObj.row [.int .i64 r, .int .i64 c, v1, v2] 0 0 false, AObj.row [.int .i64 r, .int .i64 c] 0 0 false])
  obtain ⟨p3, hp3⟩ : ∃ p, H2.length = p := ⟨_, rfl⟩
  rw [hp3] at d3 d4 ⊢
  generalize H2 ++ [AObj.row [.int .i64 r, .int .i64 c, v1, v2] 0 0 false, AObj.row [.int .i64 r, .int .i64 c] 0 0 false] = H3 at d3 d4 hst ⊢
  clear hE2 hp3 H2 a1 d1 H1 hzip
  have k1 : v1 ≠ .undef := one_known o1
  have k2 : v2 ≠ .undef := one_known o2
  have hs := hst.hs
  have hn := hst.hn
  have h25 := hs.le
  rw [hn] at h25
  have hs32 := p32 h25 hsn
  have hz32 := p32 h25 hzn
  have hSr : ∀ b, tb s b = true → b < r * c := by rw [hn]; exact hst.hS
  have em : (r : Int) * c = n := by rw [← hn]; simp
  have wn : IntKind.i64.wrap (n : Int) = n := wrap_i64 (by omega)
  have hn1 : 1 ≤ n := by
    rw [← hn]
    exact Nat.mul_pos hs.r1 hs.c1
  have hn0 : (n : Int) ≠ 0 := by omega
  have hn0' : n ≠ 0 := by omega
  have rq := rem_nat q n
  have hkn : q % n < n := Nat.mod_lt _ hn1
  obtain ⟨k, hk⟩ : ∃ k, q % n = k := ⟨_, rfl⟩
  rw [hk] at rq hkn
  have wq : IntKind.i64.wrap (q : Int) = q := wrap_i64 (by omega)
  have wk : IntKind.i64.wrap (k : Int) = k := wrap_i64 (by omega)
  have hzo : s ||| z < 4294967296 := p32 h25 (Nat.or_lt_two_pow hsn hzn)
  have hor : ∀ tt ll, binV Try.prog .or tt ll (.int .u32 (s : Int)) (.int .u32 (z : Int)) = some (.int .u32 ((s ||| z : Nat) : Int)) := fun tt ll => n_or32 s z hs32 hz32
  obtain ⟨bt, hb⟩ : ∃ bt, (s ||| z).testBit k = bt := ⟨_, rfl⟩
  have hbt : bt = false → tb s k = false ∧ tb z k = false := by
    intro h
    rw [h, Nat.testBit_or, Bool.or_eq_false_iff] at hb
    exact hb
  obtain ⟨S, hS⟩ : ∃ S, tb s = S := ⟨_, rfl⟩
  obtain ⟨Z, hZ⟩ : ∃ Z, tb z = Z := ⟨_, rfl⟩
  rw [hS] at hst hSr hbt
  rw [hZ] at hst hbt
  generalize s ||| z = so at hor hzo hb
  have a3 := ldn4 d3 k1 k2
  refine L_reg [1, 2, 7, 8, 9, 10, 11, 12] (fun K hK => ?_)
  simp [okFn_low, a3]
  refine Days_s hst _ (fun v H4 hv hE4 => ?_)
  simp
  apply hK; clear hK K
  replace d3 := hE4.row d3
  replace d4 := hE4.row d4
  replace hst := hst.ext hE4
  clear hE4 a3 H3
  have f0 := ld_f0 d4
  have f1 := ld_f1 d4
  have hvl := ls_len hv
  rw [iL_len] at hvl
  refine L_reg [1, 2, 7, 9, 10, 11, 46] (fun K hK => ?_)
  simp [pickV, hvl, f0, f1, em, wn]
  apply hK; clear hK K
  refine L_false (by simp) ?_
  have a3 := ldn4 d3 k1 k2
  clear f0 f1 d4
  refine L_regU2 mixed 2 3 [0, 1, 3, 2, 4, 5] [true, true, false, false, false] [true, true, false, false, false] [1, 2, 7, 9, 10, 11, 13, 14] (by kernel_rfl) rfl rfl (by kernel_rfl) (by kernel_rfl) (fun K hK => ?_)
  have hk : ∀ (H8 : AH) (qa qb : Nat), Ext H4 H8 → H8[qa]? = some (.row [.int .i64 r, .int .i64 c, v1, v2] 0 0 false) → H8[qb]? = some (.row [.int .i64 r, .int .i64 c, v1, v2] 0 0 false) → H4.length ≤ qa → H4.length ≤ qb → qa ≠ qb → K [(1, .int .u8 q), (2, .int .u8 q2), (7, .ptr p3 0 0), (9, .int .u32 s), (10, .int .u32 z), (11, v), (13, .ptr qa 0 0), (14, .ptr qb 0 0)] H8 := by
    intro H8 qa qb hE8 ra rb la lb hab
    apply hK; clear hK K
    have d38 := hE8.row d3
    have hv8 := hv.ext hE8
    refine L_reg [2, 7, 9, 10, 11, 13, 14, 15] (fun K hK => ?_)
    simp [hvl, wq, hn0', rq]
    apply hK; clear hK K
    refine L_reg [2, 7, 11, 13, 14, 15, 60] (fun K hK => ?_)
    suffices hk2 : K [(2, .int .u8 q2), (7, .ptr p3 0 0), (11, v), (13, .ptr qa 0 0), (14, .ptr qb 0 0), (15, .int .i64 k), (60, .bool (!bt))] H8 by
      cases bt <;> (simp [hor, n_shr' (k := .u32) so k (by simp [IntKind.bits]; omega), bit32 so k hzo, hb, b1]; exact hk2)
    apply hK; clear hK K
    have lqa := (List.getElem?_eq_some_iff.1 ra).1
    have lqb := (List.getElem?_eq_some_iff.1 rb).1
    refine L_condK [2, 7, 11, 13, 14] (fun e' H9 => ∃ (u : AV) (S' : Nat → Bool), e' = [(2, .int .u8 q2), (7, .ptr p3 0 0), (11, v), (13, .ptr qa 0 0), (14, .ptr qb 0 0)] ∧ Ext H4 H9 ∧ H8.length ≤ H9.length ∧ (∃ s1, H9[qa]? = some (.row [.int .i64 r, .int .i64 c, u, v2] 0 s1 false)) ∧ H9[qb]? = some (.row [.int .i64 r, .int .i64 c, v1, v2] 0 0 false) ∧ u.one = true ∧ St H9 r c n S' Z u v2 ∧ (∀ o, St (H9.set qb o) r c n S' Z u v2) ∧ ∀ t b, D r c 2 (opn n Z) S t b = true → D r c 2 (opn n Z) S' t b = true) (t := !bt) rfl (fun ht => ?_) (fun hf => ?_) ?_
    · have hbf : bt = false := by cases bt <;> simp_all
      obtain ⟨hSk, hZk⟩ := hbt hbf
      obtain ⟨l, o, g1, g2, g3, g4⟩ := (hst.ext hE8).ls
      have hll : l.length ≤ 25 := by rw [g3.length_eq]; exact num_len S
      have hEB : Ext H8 (H8 ++ [AObj.row [.int .i64 k] 0 1 false]) := .push _ _
      have l2 : ld (H8 ++ [AObj.row [.int .i64 k] 0 1 false]) p3 2 0 = some v1 := by rw [ld_row (hEB.row d38)]; cases v1 <;> simp_all [AV.one, known]
      obtain ⟨u, HC, happ, hO, hEC⟩ := ownF_appendL (P := Try.prog) hEB el22 el22 (v := .slice (some H8.length) 0 1 0 1 false) (l := [(k : Int)]) (.inr ⟨H8.length, 0, 1, Nat.le_refl _, rfl, by simp⟩) (g1.ext hEB) (by simp; omega)
      have hsto := st_sick (v := u) (hEC.row ra) o1 (ownF_one hO)
      refine L_reg [2, 7, 11, 13, 14] (fun K hK => ?_)
      simp [l2, happ, hsto]
      apply hK; clear hK K
      have hO2 := ownF_set hO lqa (AObj.row [.int .i64 r, .int .i64 c, u, v2] 0 0 false)
      have hL : Ls (HC.set qa (AObj.row [.int .i64 r, .int .i64 c, u, v2] 0 0 false)) u ((k : Int) :: l) := ownF_ls hO2
      have hE9 : Ext H4 (HC.set qa (AObj.row [.int .i64 r, .int .i64 c, u, v2] 0 0 false)) := Ext.set _ (hE8.trans hEC) la
      have hcl := hEC.1
      refine ⟨u, upd S k true, by simp, hE9, by rw [List.length_set]; exact hEC.1, ⟨0, List.getElem?_set_self (by omega)⟩, by rw [List.getElem?_set_ne hab]; exact hEC.row rb, ownF_one hO, hst.more hkn hSk hZk g3 hL hE9, fun o => hst.more hkn hSk hZk g3 (ownF_ls (ownF_set hO2 lqb o)) (Ext.set _ hE9 lb), fun t b h => more_D t b h⟩
    · exact ⟨v1, S, by simp, hE8, Nat.le_refl _, ⟨0, ra⟩, rb, o1, hst.ext hE8, fun o => hst.ext (Ext.set _ hE8 lb), fun _ _ h => h⟩
    rintro _ H9 ⟨u, S', rfl, hE9, hl9, ⟨s1, ra9⟩, rb9, ou, hst9, hst9', hD⟩
    clear ra rb hv8 d38 hor hzo hb hbt
    have l3 : ld H9 p3 3 0 = some v2 := by rw [ld_row (hE9.row d3)]; cases v2 <;> simp_all [AV.one, known]
    obtain ⟨l0, o0, g1, g2, g3, g4⟩ := (hst.ext hE9).ls
    have hol : o0.length ≤ 25 := by rw [g4.length_eq]; exact num_len Z
    have hv2l := ls_len g2
    obtain ⟨lz, hlz⟩ : ∃ x, o0.length = x := ⟨_, rfl⟩
    rw [hlz] at hv2l hol
    refine L_reg [2, 7, 11, 13, 14, 16] (fun K hK => ?_)
    simp [l3, hv2l]
    apply hK; clear hK K
    refine L_reg [2, 7, 11, 13, 14, 16, 71] (fun K hK => ?_)
    simp
    apply hK; clear hK K
    refine L_condK [11, 13, 14] (fun e' H10 => ∃ (w : AV) (Z' : Nat → Bool), e' = [(11, v), (13, .ptr qa 0 0), (14, .ptr qb 0 0)] ∧ Ext H4 H10 ∧ (∃ s1, H10[qa]? = some (.row [.int .i64 r, .int .i64 c, u, v2] 0 s1 false)) ∧ (∃ s1, H10[qb]? = some (.row [.int .i64 r, .int .i64 c, v1, w] 0 s1 false)) ∧ w.one = true ∧ St H10 r c n S' Z u v2 ∧ St H10 r c n S Z' v1 w ∧ ∀ t b, D r c 2 (opn n Z) S t b = true → D r c 2 (opn n Z') S t b = true) (t := decide (0 < lz)) (by simp) (fun ht => ?_) (fun hf => ?_) ?_
    · have hlp : 0 < lz := of_decide_eq_true ht
      have rq3 := rem_nat q2 lz
      have hil : q2 % lz < lz := Nat.mod_lt _ hlp
      obtain ⟨i, hi⟩ : ∃ i, q2 % lz = i := ⟨_, rfl⟩
      rw [hi] at rq3 hil
      have wq2 : IntKind.i64.wrap (q2 : Int) = q2 := wrap_i64 (by omega)
      have lz0 : (lz : Int) ≠ 0 := by omega
      have lz0' : lz ≠ 0 := by omega
      have wi : IntKind.i64.wrap (i : Int) = i := wrap_i64 (by omega)
      refine L_reg [7, 11, 13, 14, 17] (fun K hK => ?_)
      simp [wq2, lz0', rq3]
      apply hK; clear hK K
      have wi1 : IntKind.i64.wrap ((i : Int) + 1) = (i : Int) + 1 := wrap_i64 (by omega)
      refine L_reg [11, 13, 14] (fun K hK => ?_)
      simp [okFn_low, l3]
      refine Clone_ac v2 o0 _ _ (by omega) g2 (fun x H10 hO hE10 => ?_)
      rcases hO with ⟨h1, -⟩ | ⟨rr, vv, ss, h1, rfl, h2⟩
      · have : o0 = [] := by simpa using h1
        rw [this] at hlz; simp at hlz; omega
      rw [List.length_map]
      simp [wi1]
      refine Delete_ac rr vv ss [] o0 i H10 _ (by omega) (by omega) (by simpa using h2) (by
        intro y hy
        rw [List.append_nil] at hy
        obtain ⟨z, -, rfl⟩ := List.mem_map.1 hy
        rfl) (fun H11 s' tl' j1 j2 j3 j4 => ?_)
      have rb11 : H11[qb]? = some (.row [.int .i64 r, .int .i64 c, v1, v2] 0 0 false) := by rw [j4 qb (by omega)]; exact hE10.row rb9
      have ra11 : H11[qa]? = some (.row [.int .i64 r, .int .i64 c, u, v2] 0 s1 false) := by rw [j4 qa (by omega)]; exact hE10.row ra9
      have hE11 : Ext H9 H11 := ⟨by rw [j3]; exact hE10.1, fun j hj => by rw [j4 j (by omega)]; exact hE10.2 j hj⟩
      have hsto := st_cold (v := .slice (some rr) 0 (o0.length - 1) vv 1 false) rb11 o2 rfl
      simp [hsto]
      apply hK; clear hK K
      obtain ⟨d, hd1, hd2⟩ := less_perm (i := i) (by omega) g4
      have hrb : rr ≠ qb := by omega
      have hEs : Ext H4 (H11.set qb (.row [.int .i64 r, .int .i64 c, v1, .slice (some rr) 0 (o0.length - 1) vv 1 false] 0 0 false)) := Ext.set _ (hE9.trans hE11) lb
      have hq9 : qb < H9.length := by omega
      have hq11 : qb < H11.length := by have := hE11.1; omega
      have hW : Ls (H11.set qb (.row [.int .i64 r, .int .i64 c, v1, .slice (some rr) 0 (o0.length - 1) vv 1 false] 0 0 false)) (.slice (some rr) 0 (o0.length - 1) vv 1 false) (o0.eraseIdx i) := ls_cut (by rw [List.length_eraseIdx, if_pos (by omega)]) (by rw [List.getElem?_set_ne (Ne.symm hrb)]; exact j1)
      exact ⟨_, upd Z d false, by simp, hEs, ⟨s1, by rw [List.getElem?_set_ne (Ne.symm hab)]; exact ra11⟩, ⟨0, List.getElem?_set_self hq11⟩, rfl, (hst9' _).ext (ext_set2 hE11 hq9 _), hst.less hd2 hW hEs, fun t b h => less_D t b h⟩
    · exact ⟨v2, Z, by simp, hE9, ⟨s1, ra9⟩, ⟨0, rb9⟩, o2, hst9, hst.ext hE9, fun _ _ h => h⟩
    clear ra9 rb9 l3 g1 g2 g3 g4 hol hv2l hlz hst9 hst9' hl9 hE9
    rintro _ H10 ⟨w, Z', rfl, hE10, ⟨sa, ra⟩, ⟨sb, rb⟩, ow, hsta, hstb, hD2⟩
    have lda := ldn4 ra (one_known ou) k2
    have ldb := ldn4 rb k1 (one_known ow)
    refine L_reg [11, 86, 87, 88] (fun K hK => ?_)
    simp [lda, ldb, row71_2]
    apply hK; clear hK K
    have r8 : (H10 ++ [AObj.row [.int .i64 r, .int .i64 c, u, v2, .int .i64 r, .int .i64 c, v1, w] 0 8 false])[H10.length]? = some (.row [.int .i64 r, .int .i64 c, u, v2, .int .i64 r, .int .i64 c, v1, w] 0 8 false) := by simp
    have hE12 : Ext H10 (H10 ++ [AObj.row [.int .i64 r, .int .i64 c, u, v2, .int .i64 r, .int .i64 c, v1, w] 0 8 false]) := .push _ _
    obtain ⟨w0, hw0⟩ : ∃ x, H10.length = x := ⟨_, rfl⟩
    rw [hw0] at r8 ⊢
    generalize H10 ++ [AObj.row [.int .i64 r, .int .i64 c, u, v2, .int .i64 r, .int .i64 c, v1, w] 0 8 false] = H12 at r8 hE12 ⊢
    replace hsta := hsta.ext hE12
    replace hstb := hstb.ext hE12
    replace hv := hv.ext (hE10.trans hE12)
    clear lda ldb ra rb hE10 hE12 hw0
    have hel : ∀ j : Nat, j < 2 → ∃ (uu ww : AV) (S2 Z2 : Nat → Bool), takeKnown 4 (([.int .i64 r, .int .i64 c, u, v2, .int .i64 r, .int .i64 c, v1, w] : List AV).drop (j * 4)) = some [.int .i64 r, .int .i64 c, uu, ww] ∧ uu.one = true ∧ ww.one = true ∧ St H12 r c n S2 Z2 uu ww ∧ ∀ t b, D r c 2 (opn n Z) S t b = true → D r c 2 (opn n Z2) S2 t b = true := by
      intro j hj
      have ku := one_known ou
      have kw := one_known ow
      rcases (show j = 0 ∨ j = 1 by omega) with rfl | rfl
      · exact ⟨u, v2, S', Z, by simp [takeKnown], ou, o2, hsta, hD⟩
      · exact ⟨v1, w, S, Z', by simp [takeKnown], o1, ow, hstb, hD2⟩
    clear hsta hstb hD hD2
    refine L_block (L_loopV [88] (fun m vs H' => ∃ j : Nat, m = 2 - j ∧ j ≤ 2 ∧ vs = [.int .i64 j] ∧ Ext H12 H') _ [.int .i64 (0 : Nat)] rfl ⟨0, rfl, by omega, rfl, .refl _⟩ ?_)
    rintro m _ H13 ⟨j, rfl, hj, rfl, hE13⟩
    refine L_reg [11, 86, 87, 88, 89] (fun K hK => ?_)
    simp
    apply hK; clear hK K
    refine L_dec (j < 2) (by simp; omega) (fun hlt => ?_) (fun hgt => L_exit ?_)
    case refine_2 =>
      refine L_reg [6] (fun K hK => ?_)
      simp [okFn_low]
      refine works_ac _ _ ?_
      simp
      apply hK; clear hK K
      exact L_ret ⟨.inr rfl, _, rfl, rfl⟩
    refine L_block ?_
    obtain ⟨uu, ww, S2, Z2, e1, e2, e3, hst2, hD3⟩ := hel j hlt
    have lel : ldn H13 w0 0 4 (j * 4) = some [.int .i64 r, .int .i64 c, uu, ww] := by rw [ldn_row (hE13.row r8)]; exact e1
    have hj2 : (j : Int) < 2 := by omega
    refine L_reg [11, 19, 86, 87, 88] (fun K hK => ?_)
    simp [hj2, lel, hI, hz, two24 _ e2 e3]
    apply hK; clear hK K
    have d19 : (H13 ++ [AObj.row [.int .i64 r, .int .i64 c, uu, ww] 0 0 false])[H13.length]? = some (.row [.int .i64 r, .int .i64 c, uu, ww] 0 0 false) := by simp
    have hE14 : Ext H12 (H13 ++ [AObj.row [.int .i64 r, .int .i64 c, uu, ww] 0 0 false]) := hE13.trans (.push _ _)
    obtain ⟨w1, hw1⟩ : ∃ x, H13.length = x := ⟨_, rfl⟩
    rw [hw1] at d19 ⊢
    generalize H13 ++ [AObj.row [.int .i64 r, .int .i64 c, uu, ww] 0 0 false] = H14 at d19 hE14 ⊢
    clear hE13 lel hw1 H13
    have a19 := ldn4 d19 (one_known e2) (one_known e3)
    refine L_reg [11, 20, 21, 86, 87, 88] (fun K hK => ?_)
    simp [okFn_low, a19]
    refine Days_s (hst2.ext hE14) _ (fun x H15 hx hE15 => ?_)
    simp
    apply hK; clear hK K
    replace hE15 := hE14.trans hE15
    have hxl := ls_len hx
    rw [iL_len] at hxl
    have hv15 := hv.ext hE15
    refine L_reg [11, 20, 86, 87, 88, 105] (fun K hK => ?_)
    simp [pickV, hxl, hvl]
    apply hK; clear hK K
    refine L_false (by simp) ?_
    refine L_reg [11, 20, 86, 87, 88, 107, 108] (fun K hK => ?_)
    simp [hvl]
    apply hK; clear hK K
    refine L_block (L_loopV [108] (fun m vs H' => ∃ i : Nat, m = n - i ∧ i ≤ n ∧ vs = [.int .i64 i] ∧ H15 = H') _ [.int .i64 (0 : Nat)] rfl ⟨0, rfl, by omega, rfl, rfl⟩ ?_)
    rintro m _ _ ⟨i, rfl, hi, rfl, rfl⟩
    refine L_reg [11, 20, 86, 87, 88, 107, 108, 109] (fun K hK => ?_)
    simp
    apply hK; clear hK K
    refine L_dec (i < n) (by simp) (fun hlt => ?_) (fun hge => L_exit ?_)
    case refine_2 =>
      refine L_reg [11, 86, 87, 88] (fun K hK => ?_)
      simp [wrap_i64 (a := (j : Int) + 1) (by omega)]
      apply hK; clear hK K
      exact ⟨2 - (j + 1), [.int .i64 (j + 1 : Nat)], by omega, by simp, j + 1, rfl, by omega, rfl, hE15⟩
    refine L_block ?_
    obtain ⟨rz, pz, vz, hix, hldz⟩ := ls_ix hv15 (i := i) (by rw [iL_len]; exact hlt)
    obtain ⟨ry, py, vy, hiy, hldy⟩ := ls_ix hx (i := i) (by rw [iL_len]; exact hlt)
    rw [iL_g _ hlt] at hldz hldy
    have hle := day_le hD3 i
    generalize day r c (opn n Z) S i = fa at hldz hle
    generalize day r c (opn n Z2) S2 i = fb at hldy hle
    refine L_reg [11, 20, 22, 86, 87, 88, 107, 108] (fun K hK => ?_)
    simp
    apply hK; clear hK K
    refine L_regT mixed [11, 20, 86, 87, 88, 107, 108, 133] (by kernel_rfl) (fun K hK => ?_)
    suffices hk3 : K [(11, v), (20, x), (86, .slice (some w0) 0 2 0 4 false), (87, .int .i64 2), (88, .int .i64 j), (107, .int .i64 n), (108, .int .i64 i), (133, .bool false)] H15 by
      by_cases c1 : 0 ≤ fa
      · obtain ⟨c2, c3⟩ := hle c1
        have c2' : ¬ fb < 0 := by omega
        have c3' : ¬ fa < fb := by omega
        simp (maxSteps := 1000000) [hix, hldz, hiy, hldy, pickV, c1, c2', c3']
        exact hk3
      · simp (maxSteps := 1000000) [hix, hldz, hiy, hldy, pickV, c1]
        exact hk3
    apply hK; clear hK K
    refine L_false (by simp) ?_
    refine L_reg [11, 20, 86, 87, 88, 107, 108] (fun K hK => ?_)
    simp [wrap_i64 (a := (i : Int) + 1) (by omega)]
    apply hK; clear hK K
    exact ⟨n - (i + 1), [.int .i64 (i + 1 : Nat)], by omega, by simp, i + 1, rfl, by omega, rfl, rfl⟩
  have ex : ∀ T : AH, Ext H4 (H4 ++ T) := fun T => .push _ _
  constructor
  · simp [addE, a3, hI, hz, two24 _ o1 o2, two24b _ o1 o2]
    exact ⟨ex _, ex _, ex _, hk _ _ _ (ex _) (by simp) (by simp) (by omega) (by omega) (by omega)⟩
  · simp [addE, permL, a3, hI, hz, two24 _ o1 o2, two24b _ o1 o2]
    exact ⟨ex _, ex _, ex _, hk _ _ _ (ex _) (by simp) (by simp) (by omega) (by omega) (by omega)⟩
end Go.Proofs.Ytfbpgnjeafadmaa.Fl
