/- Flat divisions and those of their gaps: the visitor. -/
import Derived.Test.YtjaefngmidllgaaVisK
namespace Go.Proofs.Ytjaefngmidllgaa.St
open Go Go.Proofs.Ytjaefngmidllgaa Go.Proofs.Ytjaefngmidllgaa.AX
set_option maxRecDepth 100000
set_option linter.unusedVariables false
theorem il9K {d : List Nat} (hd : OkD d) : (il d).length ≤ 1000000 := by rw [il_len]; have := hd.len; omega
theorem b_addS {P : Program} {t : TypeId} {l : Bool} {a b : List UInt8} (h : a.length + b.length ≤ 1073741824) : binV P .add t l (.str a) (.str b) = some (.str (a ++ b)) := by simp [binV, aBin, h]
set_option maxHeartbeats 8000000 in
theorem visK_ok (pg pc pn pm r n N : Nat) (h1 : 1 ≤ n) (h6 : n ≤ 6) (d1 : pg ≠ pc) (d2 : pg ≠ r) (d3 : pc ≠ r) (d4 : pn ≠ pg) (d5 : pn ≠ pc) (d6 : pn ≠ r) (d7 : pm ≠ pg) (d8 : pm ≠ pc) (d9 : pm ≠ r) (b1 : pg < N) (b2 : pc < N) (b3 : r < N) : Vis n (WK pg pc r) N 44 [.ptr pg 0 0, .ptr pc 0 0, .ptr pn 0 0, .ptr pm 0 0] (SK pg pc pn pm r n) visK where
  ok := by kernel_rfl
  lt j hj := by rcases hj with rfl | rfl | rfl <;> assumption
  ext st H H' hS hE := by
    obtain ⟨⟨m1, g⟩, ⟨m2, c⟩, ⟨m3, n'⟩, ⟨m4, m⟩, rr⟩ := hS
    exact ⟨⟨m1, hE.row g⟩, ⟨m2, hE.row c⟩, ⟨m3, hE.row n'⟩, ⟨m4, hE.row m⟩, hE.row rr⟩
  step := by
    rintro ⟨g, c, M⟩ v d H Q hN hS hv hrv hr hdl h
    have hSall := hS
    obtain ⟨⟨m1, rgd⟩, ⟨m2, rc⟩, ⟨m3, rn⟩, ⟨m4, rm⟩, rr⟩ := hS
    simp only at rgd rc rn rm rr
    have hd : OkD d := ⟨by omega, by omega, hr⟩
    have lg : ld H pg 0 0 = some (.bool g) := by rw [ld_row rgd]; rfl
    refine L_body 202 Try.func44 rfl rfl ?_
    refine L_reg [0, 1, 2, 3, 4, 28] (fun K hK => ?_)
    simp [lg]
    apply hK; clear hK K
    cases g with
    | false =>
      refine L_true rfl ?_
      exact L_ret ⟨.inr rfl, _, rfl, h H (by simpa [visK] using hSall) (.refl _ _)⟩
    | true =>
    refine L_false rfl ?_
    refine L_reg [0, 1, 2, 3, 4, 6] (fun K hK => ?_)
    simp [okFn_low]
    refine larcs_ac (by omega) v H hv _ fun H1 hE1 => ?_
    simp
    apply hK; clear hK K
    have hv1 := hv.ext hE1
    by_cases hc : crS d = 0
    case neg =>
      have hvis : visK (true, c, M) d = (true, c, M) := by simp [visK, hc]
      refine L_reg [0, 1, 2, 3, 4, 6, 8, 9] (fun K hK => ?_)
      simp [okFn_low]
      refine Gaps_clash 39 (.inl rfl) hd hc v H1 hv1 _ fun H2 hE2 => ?_
      simp [nilS]
      apply hK; clear hK K
      refine L_reg [0, 1, 2, 3, 4, 6, 8, 9, 10, 11] (fun K hK => ?_)
      simp [okFn_low]
      refine Gaps_clash 41 (.inr (.inr (.inl rfl))) hd hc v H2 (hv1.ext hE2) _ fun H3 hE3 => ?_
      simp [nilS]
      apply hK; clear hK K
      have hE := hE1.trans (hE2.trans hE3)
      refine L_reg [0, 1, 2, 3, 4, 8, 9, 10, 11, 45] (fun K hK => ?_)
      simp
      apply hK; clear hK K
      refine L_true (by simp; omega) ?_
      have hst := store_row (P := Try.prog) (u := 4) (p := 0) sc4 (x := .bool true) (y := .bool true) rfl (hE.row rgd) rfl
      simp only [List.set_cons_zero, Nat.min_zero] at hst
      refine L_reg [] (fun K hK => ?_)
      simp [pickV, hst, wrap_i64 (a := (0 : Int)) (by omega)]
      apply hK; clear hK K
      refine L_ret ⟨.inr rfl, _, rfl, h _ ?_ ((Kp.of hE).set (.inl rfl) _)⟩
      rw [hvis]
      exact ⟨⟨0, get_set (hE.row rgd)⟩, ⟨m2, by rw [set_ne d1]; exact hE.row rc⟩, ⟨m3, by rw [set_ne (Ne.symm d4)]; exact hE.row rn⟩, ⟨m4, by rw [set_ne (Ne.symm d7)]; exact hE.row rm⟩, by rw [set_ne d2]; exact hE.row rr⟩
    have hF := fac_of h1 h6 hr hdl hc
    have hgl := gp_len d
    have hgd : OkD (gp d) := ⟨by omega, by omega, rg_dv _⟩
    have hol : (owS d).length = d.length := by rw [owS_eq, dv_len, shG_len]
    have hod : OkD (owS d) := ⟨by omega, by omega, rg_dv _⟩
    refine L_reg [0, 1, 2, 3, 4, 6, 8, 9] (fun K hK => ?_)
    simp [okFn_low]
    refine Gaps_ok 39 (.inl rfl) hd hc v H1 hv1 _ fun w8 H2 ho8 hE2 => ?_
    simp
    apply hK; clear hK K
    refine L_reg [0, 1, 2, 3, 4, 6, 8, 9, 10, 11] (fun K hK => ?_)
    simp [okFn_low]
    refine Back_ok 41 (.inl rfl) hd hc v H2 (hv1.ext hE2) _ fun w10 H3 ho10 hE3 => ?_
    simp
    apply hK; clear hK K
    rw [hc]
    refine L_reg [0, 1, 2, 3, 4, 8, 9, 10, 11, 45] (fun K hK => ?_)
    simp
    apply hK; clear hK K
    refine L_false (by simp) ?_
    have hE := hE1.trans (hE2.trans hE3)
    have rg3 := hE.row rgd
    have rc3 := hE.row rc
    have lc3 : ld H3 pc 0 0 = some (.int .i64 c) := by rw [ld_row rc3]; rfl
    have hst := store_row (P := Try.prog) (u := 3) (p := 0) sc3 (x := .int .i64 (IntKind.i64.wrap (c + 1))) (y := .int .i64 c) rfl rc3 rfl
    simp only [List.set_cons_zero, Nat.min_zero] at hst
    have r8 : ∀ j, rowOf w8 = some j → ¬ WK pg pc r j := fun j hj hw => by
      have h2 := ownF_row ho8 j hj
      have := hE1.1
      rcases hw with rfl | rfl | rfl <;> omega
    have r10 : ∀ j, rowOf w10 = some j → ¬ WK pg pc r j := fun j hj hw => by
      have h2 := ownF_row ho10 j hj
      have := hE1.1
      have := hE2.1
      rcases hw with rfl | rfl | rfl <;> omega
    have l8 := (ownF_ls ho8).ext hE3
    have l10 := ownF_ls ho10
    refine L_reg [0, 1, 3, 4, 8, 9, 10, 11] (fun K hK => ?_)
    simp [lc3, hst]
    apply hK; clear hK K
    have hK4 := (Kp.of hE : Kp (WK pg pc r) H H3).set (r := pc) (.inr (.inl rfl)) (AObj.row [.int .i64 (IntKind.i64.wrap (c + 1))] 0 0 false)
    have hK34 := (Kp.refl (WK pg pc r) H3).set (r := pc) (.inr (.inl rfl)) (AObj.row [.int .i64 (IntKind.i64.wrap (c + 1))] 0 0 false)
    have rc4 := get_set (o' := AObj.row [.int .i64 (IntKind.i64.wrap (c + 1))] 0 0 false) rc3
    have rg4 : (H3.set pc (AObj.row [.int .i64 (IntKind.i64.wrap (c + 1))] 0 0 false))[pg]? = some (.row [.bool true] 0 m1 false) := by rw [set_ne (Ne.symm d1)]; exact rg3
    have rr4 : (H3.set pc (AObj.row [.int .i64 (IntKind.i64.wrap (c + 1))] 0 0 false))[r]? = some (.map (mapS M)) := by rw [set_ne d3]; exact hE.row rr
    have rn4 : (H3.set pc (AObj.row [.int .i64 (IntKind.i64.wrap (c + 1))] 0 0 false))[pn]? = some (.row [.int .i64 (n : Nat)] 0 m3 false) := by rw [set_ne (Ne.symm d5)]; exact hE.row rn
    have rm4 : (H3.set pc (AObj.row [.int .i64 (IntKind.i64.wrap (c + 1))] 0 0 false))[pm]? = some (.row [.map r] 0 m4 false) := by rw [set_ne (Ne.symm d8)]; exact hE.row rm
    have l8 := hK34.ls l8 r8
    have l10 := hK34.ls l10 r10
    generalize H3.set pc (AObj.row [.int .i64 (IntKind.i64.wrap (c + 1))] 0 0 false) = H4 at hK4 rc4 rg4 rr4 rn4 rm4 l8 l10 ⊢
    clear hst lc3 rc3 rg3 hK34 ho8 ho10
    have hv4 := hK4.ls hv hrv
    have ln4 : ld H4 pn 0 0 = some (.int .i64 (n : Nat)) := by rw [ld_row rn4]; rfl
    have hl8 := ils_len l8
    have hlv := ils_len hv4
    rw [hgl, hdl] at hl8
    rw [hdl] at hlv
    have hck := chk_il hgd
    have hrm := hF.rooms
    have o1 := opn_le d 0
    have o2 := opn_le (gp d) 0
    refine L_regQ mixed [0, 1, 3, 4, 8, 10, 88] (by kernel_rfl) (fun K hK => ?_)
    simp [okFn_low, pickV]
    refine exQ_mk (fun Q hQ => Check_q (il (gp d)) w8 (il9K hgd) H4 l8 Q hQ) ?_
    rw [hck]
    simp [okFn_low, pickV, hl8, ln4]
    refine exQ_mk (fun Q hQ => rooms_q hgd.pos hgd.len hgd.rg w8 H4 l8 Q hQ) ?_
    simp [okFn_low]
    refine exQ_mk (fun Q hQ => rooms_q hd.pos hd.len hd.rg v H4 hv4 Q hQ) ?_
    have e5 : (opn 0 (gp d) : Int) + (opn 0 d : Int) = (n : Int) + 1 := by omega
    simp [pickV, ln4, e5, wrap_i64 (a := (n : Int) + 1) (by omega)]
    apply hK; clear hK K
    refine L_false rfl ?_
    refine L_reg [0, 1, 3, 4, 8, 10, 12] (fun K hK => ?_)
    simp [okFn_low]
    refine larcs_ac (d := gp d) (by omega) w8 H4 l8 _ fun H5 hE5 => ?_
    rw [hF.flat]
    simp
    apply hK; clear hK K
    have hK5 := hK4.trans (Kp.of hE5)
    have rc5 := hE5.row rc4
    have rg5 := hE5.row rg4
    have rr5 := hE5.row rr4
    have rn5 := hE5.row rn4
    have rm5 := hE5.row rm4
    have l8 := l8.ext hE5
    have l10 := l10.ext hE5
    have hv5 := hv4.ext hE5
    have ln5 : ld H5 pn 0 0 = some (.int .i64 (n : Nat)) := by rw [ld_row rn5]; rfl
    clear hE5 rc4 rg4 rr4 rn4 rm4 hv4 ln4 hK4
    refine L_reg [0, 1, 3, 4, 8, 10, 95] (fun K hK => ?_)
    simp
    apply hK; clear hK K
    refine L_false rfl ?_
    refine L_reg [0, 1, 4, 8, 10, 96, 97] (fun K hK => ?_)
    simp [ln5]
    apply hK; clear hK K
    refine L_block (L_loopV [97] (fun q vs H' => ∃ j : Nat, q = n - j ∧ j ≤ n ∧ vs = [.int .i64 j] ∧ H5 = H') _ [.int .i64 (0 : Nat)] rfl ⟨0, rfl, by omega, rfl, rfl⟩ ?_)
    rintro q _ _ ⟨j, rfl, hj, rfl, rfl⟩
    refine L_reg [0, 1, 4, 8, 10, 96, 97, 98] (fun K hK => ?_)
    simp
    apply hK; clear hK K
    refine L_dec (j < n) (by simp) (fun hjl => ?_) (fun hjg => L_exit ?_)
    · refine L_block ?_
      refine L_reg [0, 1, 4, 8, 10, 14, 96, 97] (fun K hK => ?_)
      simp
      apply hK; clear hK K
      refine L_reg [0, 1, 4, 8, 10, 14, 96, 97, 100, 101] (fun K hK => ?_)
      simp
      apply hK; clear hK K
      refine L_block (L_loopV [101] (fun q vs H' => ∃ i : Nat, q = j - i ∧ i ≤ j ∧ vs = [.int .i64 i] ∧ H5 = H') _ [.int .i64 (0 : Nat)] rfl ⟨0, rfl, by omega, rfl, rfl⟩ ?_)
      rintro q _ _ ⟨i, rfl, hi, rfl, rfl⟩
      refine L_reg [0, 1, 4, 8, 10, 14, 96, 97, 100, 101, 102] (fun K hK => ?_)
      simp
      apply hK; clear hK K
      refine L_dec (i < j) (by simp) (fun hil => ?_) (fun hig => L_exit ?_)
      · refine L_block ?_
        refine L_reg [0, 1, 4, 8, 10, 14, 15, 96, 97, 100, 101] (fun K hK => ?_)
        simp
        apply hK; clear hK K
        refine L_reg [0, 1, 4, 8, 10, 14, 15, 16, 96, 97, 100, 101] (fun K hK => ?_)
        simp
        apply hK; clear hK K
        refine L_reg [0, 1, 4, 8, 10, 14, 15, 16, 96, 97, 100, 101, 105, 106] (fun K hK => ?_)
        simp [okFn_low]
        refine rooms_q hd.pos hd.len hd.rg v H5 hv5 _ ?_
        obtain ⟨o, hoo⟩ : ∃ o, opn 0 d = o := ⟨_, rfl⟩
        rw [hoo]
        simp
        apply hK; clear hK K
        refine L_block (L_loopV [16, 106] (fun q vs H' => ∃ x : Nat, q = o - x ∧ x ≤ o ∧ vs = [.bool (whF d i j x), .int .i64 x] ∧ H5 = H') _ [.bool true, .int .i64 (0 : Nat)] rfl ⟨0, rfl, by omega, by simp [whF], rfl⟩ ?_)
        rintro q _ _ ⟨x, rfl, hx, rfl, rfl⟩
        refine L_reg [0, 1, 4, 8, 10, 14, 15, 16, 96, 97, 100, 101, 105, 106, 107] (fun K hK => ?_)
        simp
        apply hK; clear hK K
        refine L_dec (x < o) (by simp) (fun hxl => ?_) (fun hxg => L_exit ?_)
        · refine L_block ?_
          refine L_reg [0, 1, 4, 8, 10, 14, 15, 16, 17, 96, 97, 100, 101, 105, 106] (fun K hK => ?_)
          simp
          apply hK; clear hK K
          refine L_reg [0, 1, 4, 8, 10, 14, 15, 16, 17, 18, 19, 96, 97, 100, 101, 105, 106] (fun K hK => ?_)
          simp
          apply hK; clear hK K
          refine L_reg [0, 1, 4, 8, 10, 14, 15, 16, 17, 18, 19, 96, 97, 100, 101, 105, 106, 109, 110, 111] (fun K hK => ?_)
          simp [hlv]
          apply hK; clear hK K
          refine L_block (L_loopV [18, 19, 111] (fun q vs H' => ∃ k : Nat, q = n - k ∧ k ≤ n ∧ vs = [.bool (inF d i j x k), .bool (outF d i j x k), .int .i64 k] ∧ H5 = H') _ [.bool false, .bool false, .int .i64 (0 : Nat)] rfl ⟨0, rfl, by omega, by simp [inF, outF], rfl⟩ ?_)
          rintro q _ _ ⟨k, rfl, hk, rfl, rfl⟩
          refine L_reg [0, 1, 4, 8, 10, 14, 15, 16, 17, 18, 19, 96, 97, 100, 101, 105, 106, 109, 110, 111, 112] (fun K hK => ?_)
          simp
          apply hK; clear hK K
          refine L_dec (k < n) (by simp) (fun hkl => ?_) (fun hkg => L_exit ?_)
          · refine L_block ?_
            obtain ⟨ra, pa, va, x1, y1⟩ := il_ix hv5 (i := k) (by omega)
            rw [← ga_lt (by omega)] at y1
            have i1 := inF_succ d i j x k
            have i2 := outF_succ d i j x k
            refine L_reg [0, 1, 4, 8, 10, 14, 15, 16, 17, 18, 19, 20, 21, 96, 97, 100, 101, 105, 106, 109, 110, 111] (fun K hK => ?_)
            simp [x1, y1]
            apply hK; clear hK K
            obtain ⟨b, hb⟩ : ∃ b, (decide (i < k) && decide (k ≤ j)) = b := ⟨_, rfl⟩
            rw [hb] at i1 i2
            obtain ⟨y, hy⟩ : ∃ y, ga d k = y := ⟨_, rfl⟩
            rw [hy] at i1 i2 y1 ⊢
            by_cases exy : y = x
            · have e1 : (y == x) = true := by simp [exy]
              rw [e1, Bool.true_and] at i1 i2
              have e1i : ((y : Int) == (x : Int)) = true := by simp [exy]
              refine L_reg [0, 1, 4, 8, 10, 14, 15, 16, 17, 18, 19, 21, 96, 97, 100, 101, 105, 106, 109, 110, 111, 128] (fun K hK => ?_)
              suffices hk : K [(0, v), (1, .ptr pg 0 0), (4, .ptr pm 0 0), (8, w8), (10, w10), (14, .int .i64 (j : Nat)), (15, .int .i64 (i : Nat)), (16, .bool (whF d i j x)), (17, .int .i64 (x : Nat)), (18, .bool (inF d i j x k)), (19, .bool (outF d i j x k)), (21, .int .i64 (y : Nat)), (96, .int .i64 (n : Nat)), (97, .int .i64 (j : Nat)), (100, .int .i64 (j : Nat)), (101, .int .i64 (i : Nat)), (105, .int .i64 (o : Nat)), (106, .int .i64 (x : Nat)), (109, v), (110, .int .i64 (n : Nat)), (111, .int .i64 (k : Nat)), (128, .bool b)] H5 by
                rw [← hb] at hk
                by_cases g1 : i < k
                · simp [pickV, e1i, g1]
                  simpa [g1] using hk
                · simp [pickV, e1i, g1]
                  simpa [g1] using hk
              apply hK; clear hK K
              cases b with
              | true =>
                rw [Bool.or_true] at i1
                rw [Bool.not_true, Bool.or_false] at i2
                refine L_true rfl ?_
                refine L_reg [0, 1, 4, 8, 10, 14, 15, 16, 17, 18, 19, 96, 97, 100, 101, 105, 106, 109, 110, 111] (fun K hK => ?_)
                simp
                apply hK; clear hK K
                refine L_reg [0, 1, 4, 8, 10, 14, 15, 16, 17, 18, 19, 96, 97, 100, 101, 105, 106, 109, 110, 111] (fun K hK => ?_)
                simp [wrap_i64 (a := (k : Int) + 1) (by omega)]
                apply hK; clear hK K
                exact ⟨n - (k + 1), [.bool (inF d i j x (k + 1)), .bool (outF d i j x (k + 1)), .int .i64 (k + 1 : Nat)], by omega, by rw [i1, i2]; simp, k + 1, rfl, by omega, rfl, rfl⟩
              | false =>
                rw [Bool.or_false] at i1
                rw [Bool.not_false, Bool.or_true] at i2
                refine L_false rfl ?_
                refine L_reg [0, 1, 4, 8, 10, 14, 15, 16, 17, 18, 19, 96, 97, 100, 101, 105, 106, 109, 110, 111, 131] (fun K hK => ?_)
                simp
                apply hK; clear hK K
                refine L_true (by simp [exy]) ?_
                refine L_reg [0, 1, 4, 8, 10, 14, 15, 16, 17, 18, 19, 96, 97, 100, 101, 105, 106, 109, 110, 111] (fun K hK => ?_)
                simp
                apply hK; clear hK K
                refine L_reg [0, 1, 4, 8, 10, 14, 15, 16, 17, 18, 19, 96, 97, 100, 101, 105, 106, 109, 110, 111] (fun K hK => ?_)
                simp [wrap_i64 (a := (k : Int) + 1) (by omega)]
                apply hK; clear hK K
                exact ⟨n - (k + 1), [.bool (inF d i j x (k + 1)), .bool (outF d i j x (k + 1)), .int .i64 (k + 1 : Nat)], by omega, by rw [i1, i2]; simp, k + 1, rfl, by omega, rfl, rfl⟩
            · have e1 : (y == x) = false := by simpa using exy
              rw [e1, Bool.false_and, Bool.or_false] at i1 i2
              have e1i : ((y : Int) == (x : Int)) = false := by simp; omega
              refine L_reg [0, 1, 4, 8, 10, 14, 15, 16, 17, 18, 19, 21, 96, 97, 100, 101, 105, 106, 109, 110, 111, 128] (fun K hK => ?_)
              simp [pickV, e1i]
              apply hK; clear hK K
              refine L_false rfl ?_
              refine L_reg [0, 1, 4, 8, 10, 14, 15, 16, 17, 18, 19, 96, 97, 100, 101, 105, 106, 109, 110, 111, 131] (fun K hK => ?_)
              simp
              apply hK; clear hK K
              refine L_false (by simp; omega) ?_
              refine L_reg [0, 1, 4, 8, 10, 14, 15, 16, 17, 18, 19, 96, 97, 100, 101, 105, 106, 109, 110, 111] (fun K hK => ?_)
              simp [wrap_i64 (a := (k : Int) + 1) (by omega)]
              apply hK; clear hK K
              exact ⟨n - (k + 1), [.bool (inF d i j x (k + 1)), .bool (outF d i j x (k + 1)), .int .i64 (k + 1 : Nat)], by omega, by rw [i1, i2]; simp, k + 1, rfl, by omega, rfl, rfl⟩
          · have e : k = n := by omega
            subst e
            have hws := whF_succ d i j x
            rw [hdl] at hws
            refine L_reg [0, 1, 4, 8, 10, 14, 15, 16, 96, 97, 100, 101, 105, 106] (fun K hK => ?_)
            suffices hk : K [(0, v), (1, .ptr pg 0 0), (4, .ptr pm 0 0), (8, w8), (10, w10), (14, .int .i64 (j : Nat)), (15, .int .i64 (i : Nat)), (16, .bool (whF d i j (x + 1))), (96, .int .i64 (k : Nat)), (97, .int .i64 (j : Nat)), (100, .int .i64 (j : Nat)), (101, .int .i64 (i : Nat)), (105, .int .i64 (o : Nat)), (106, .int .i64 (x : Nat))] H5 by
              rw [hws] at hk
              cases w1 : whF d i j x with
              | false => rw [w1] at hk; simp [pickV]; simpa using hk
              | true =>
                cases w2 : inF d i j x k with
                | false => rw [w1, w2] at hk; simp [pickV]; simpa using hk
                | true => rw [w1, w2] at hk; simp [pickV]; simpa using hk
            apply hK; clear hK K
            refine L_reg [0, 1, 4, 8, 10, 14, 15, 16, 96, 97, 100, 101, 105, 106] (fun K hK => ?_)
            simp [wrap_i64 (a := (x : Int) + 1) (by omega)]
            apply hK; clear hK K
            exact ⟨o - (x + 1), [.bool (whF d i j (x + 1)), .int .i64 (x + 1 : Nat)], by omega, by simp, x + 1, rfl, by omega, rfl, rfl⟩
        · have e : x = o := by omega
          subst e
          have hwh := hF.whole j hjl i hil
          rw [hoo] at hwh
          rw [hwh]
          obtain ⟨ra, pa, va, x1, y1⟩ := il_ix l8 (i := i) (by omega)
          obtain ⟨rb, pb, vb, x2, y2⟩ := il_ix l8 (i := j) (by omega)
          rw [← ga_lt (by omega)] at y1 y2
          have e6 : ((ga (gp d) i : Int) == (ga (gp d) j : Int)) = (ga (gp d) i == ga (gp d) j) := by rw [Bool.eq_iff_iff, beq_iff_eq, beq_iff_eq]; omega
          refine L_regT mixed [0, 1, 4, 8, 10, 14, 96, 97, 100, 101, 152] (by kernel_rfl) (fun K hK => ?_)
          simp [x1, y1, x2, y2, e6, b_neqB Try.underlying4]
          apply hK; clear hK K
          refine L_false (by simp) ?_
          refine L_reg [0, 1, 4, 8, 10, 14, 96, 97, 100, 101] (fun K hK => ?_)
          simp [wrap_i64 (a := (i : Int) + 1) (by omega)]
          apply hK; clear hK K
          exact ⟨j - (i + 1), [.int .i64 (i + 1 : Nat)], by omega, by simp, i + 1, rfl, by omega, rfl, rfl⟩
      · have e : i = j := by omega
        subst e
        refine L_reg [0, 1, 4, 8, 10, 96, 97] (fun K hK => ?_)
        simp [wrap_i64 (a := (i : Int) + 1) (by omega)]
        apply hK; clear hK K
        exact ⟨n - (i + 1), [.int .i64 (i + 1 : Nat)], by omega, by simp, i + 1, rfl, by omega, rfl, rfl⟩
    clear hjg hj
    refine L_reg [0, 1, 4, 8, 10, 22] (fun K hK => ?_)
    simp
    apply hK; clear hK K
    refine L_reg [0, 1, 4, 8, 10, 22, 155, 156, 157] (fun K hK => ?_)
    simp [hl8]
    apply hK; clear hK K
    refine L_block (L_loopV [22, 157] (fun q vs H' => ∃ k : Nat, q = n - k ∧ k ≤ n ∧ vs = [.str (nm ((gp d).take k)), .int .i64 k] ∧ H5 = H') _ [.str [], .int .i64 (0 : Nat)] rfl ⟨0, rfl, by omega, by simp [nm], rfl⟩ ?_)
    rintro q _ _ ⟨k, rfl, hk, rfl, rfl⟩
    refine L_reg [0, 1, 4, 8, 10, 22, 155, 156, 157, 158] (fun K hK => ?_)
    simp
    apply hK; clear hK K
    refine L_dec (k < n) (by simp) (fun hkl => ?_) (fun hkg => L_exit ?_)
    · refine L_block ?_
      obtain ⟨ra, pa, va, x1, y1⟩ := il_ix l8 (i := k) (by omega)
      have hx9 := hgd.lt ((gp d)[k]'(by omega)) (List.getElem_mem _)
      have hnm : nm ((gp d).take (k + 1)) = nm ((gp d).take k) ++ [UInt8.ofNat (97 + (gp d)[k]'(by omega))] := by
        rw [← List.take_append_getElem (by omega)]; unfold nm; rw [List.map_append]; rfl
      have hnl : (nm ((gp d).take k)).length ≤ 9 := by simp [nm]; omega
      generalize (gp d)[k]'(by omega) = x at y1 hx9 hnm
      generalize nm ((gp d).take k) = s at hnm hnl ⊢
      have w1 : IntKind.i64.wrap (97 + (x : Int)) = 97 + (x : Int) := wrap_i64 (by omega)
      have w2 : IntKind.i32.wrap (97 + (x : Int)) = ((97 + x : Nat) : Int) := by
        have : ∀ x : Nat, x < 9 → IntKind.i32.wrap (97 + (x : Int)) = ((97 + x : Nat) : Int) := by decide
        exact this x hx9
      have hcv : aConv Try.prog 21 9 (.int .i32 (IntKind.i32.wrap (97 + (x : Int)))) = some (.str [UInt8.ofNat (97 + x)]) := by rw [w2]; exact cv21 x hx9
      generalize UInt8.ofNat (97 + x) = bt at hcv hnm
      have hadd : ∀ l, binV Try.prog .add 9 l (.str s) (.str [bt]) = some (.str (s ++ [bt])) := fun l => b_addS (by simp; omega)
      refine L_reg [0, 1, 4, 8, 10, 22, 24, 155, 156, 157] (fun K hK => ?_)
      simp [x1, y1]
      apply hK; clear hK K
      refine L_reg [0, 1, 4, 8, 10, 22, 155, 156, 157] (fun K hK => ?_)
      simp [w1, hcv, hadd]
      apply hK; clear hK K
      refine L_reg [0, 1, 4, 8, 10, 22, 155, 156, 157] (fun K hK => ?_)
      simp [wrap_i64 (a := (k : Int) + 1) (by omega)]
      apply hK; clear hK K
      exact ⟨n - (k + 1), [.str (nm ((gp d).take (k + 1))), .int .i64 (k + 1 : Nat)], by omega, by rw [hnm]; simp, k + 1, rfl, by omega, rfl, rfl⟩
    have e : k = n := by omega
    subst e
    rw [List.take_of_length_le (by omega)]
    obtain ⟨key, hkey⟩ : ∃ key, nm (gp d) = key := ⟨_, rfl⟩
    rw [hkey]
    refine L_reg [0, 1, 4, 9, 10, 22, 25] (fun K hK => ?_)
    simp [okFn_low]
    refine Back_ok 41 (.inl rfl) hgd hF.flat w8 H5 l8 _ fun w25 H6 ho25 hE6 => ?_
    simp
    apply hK; clear hK K
    refine L_reg [0, 1, 4, 9, 11, 22, 25, 26] (fun K hK => ?_)
    simp [okFn_low]
    refine Gaps_ok 39 (.inl rfl) hod hF.flat2 w10 H6 (l10.ext hE6) _ fun w26 H7 ho26 hE7 => ?_
    simp
    apply hK; clear hK K
    rw [hF.back] at ho25
    rw [hF.there] at ho26
    have hE67 := hE6.trans hE7
    have hK7 := hK5.trans (Kp.of hE67)
    have l25 := (ownF_ls ho25).ext hE7
    have l26 := ownF_ls ho26
    have lv7 := hv5.ext hE67
    have rg7 := hE67.row rg5
    have rc7 := hE67.row rc5
    have rr7 := hE67.row rr5
    have rn7 := hE67.row rn5
    have rm7 := hE67.row rm5
    have lm7 : ld H7 pm 0 0 = some (.map r) := by rw [ld_row rm7]; rfl
    have hlk := look_S rr7 key
    have hst := fun x : Bool => store_row (P := Try.prog) (u := 4) (p := 0) sc4 (x := .bool x) (y := .bool true) rfl rg7 rfl
    simp only [List.set_cons_zero, Nat.min_zero] at hst
    have hvis : visK (true, c, M) d = (!(M.contains key), IntKind.i64.wrap (c + 1), if M.contains key then M else M ++ [key]) := by simp [visK, hc, hkey]
    refine L_reg [4, 22] (fun K hK => ?_)
    suffices hk : K [(4, .ptr pm 0 0), (22, .str key)] (H7.set pg (.row [.bool (!(M.contains key))] 0 0 false)) by
      cases hm : M.contains key with
      | true =>
        rw [hm] at hlk hk
        simp [lm7, hlk, pickV, hst false]
        exact hk
      | false =>
        rw [hm] at hlk hk
        simp [lm7, hlk, pickV, okFn_low]
        refine same_q w25 v (il d) (il d) (il9K hd) (il9K hd) H7 l25 lv7 _ ?_
        simp [pickV, okFn_low]
        refine same_q w26 v (il d) (il d) (il9K hd) (il9K hd) H7 l26 lv7 _ ?_
        simp [pickV, hst true]
        exact hk
    apply hK; clear hK K
    have rr8 : (H7.set pg (.row [.bool (!(M.contains key))] 0 0 false))[r]? = some (.map (mapS M)) := by rw [set_ne d2]; exact rr7
    have rg8 := get_set (o' := AObj.row [.bool (!(M.contains key))] 0 0 false) rg7
    have rc8 : (H7.set pg (.row [.bool (!(M.contains key))] 0 0 false))[pc]? = some (.row [.int .i64 (IntKind.i64.wrap (c + 1))] 0 0 false) := by rw [set_ne d1]; exact rc7
    have rn8 : (H7.set pg (.row [.bool (!(M.contains key))] 0 0 false))[pn]? = some (.row [.int .i64 (k : Nat)] 0 m3 false) := by rw [set_ne (Ne.symm d4)]; exact rn7
    have rm8 : (H7.set pg (.row [.bool (!(M.contains key))] 0 0 false))[pm]? = some (.row [.map r] 0 m4 false) := by rw [set_ne (Ne.symm d7)]; exact rm7
    have hK8 := hK7.set (r := pg) (.inl rfl) (AObj.row [.bool (!(M.contains key))] 0 0 false)
    generalize H7.set pg (.row [.bool (!(M.contains key))] 0 0 false) = H8 at rr8 rg8 rc8 rn8 rm8 hK8 ⊢
    have lm8 : ld H8 pm 0 0 = some (.map r) := by rw [ld_row rm8]; rfl
    have hput := put_S rr8 key
    generalize hM2 : (if M.contains key then M else M ++ [key]) = M2 at hput hvis
    refine L_reg [] (fun K hK => ?_)
    simp [lm8, hput]
    apply hK; clear hK K
    refine ⟨.inl rfl, _, rfl, h _ ?_ (hK8.set (.inr (.inr rfl)) _)⟩
    rw [hvis]
    refine ⟨⟨0, ?_⟩, ⟨0, ?_⟩, ⟨m3, ?_⟩, ⟨m4, ?_⟩, ?_⟩
    · rw [set_ne (Ne.symm d2)]; exact rg8
    · rw [set_ne (Ne.symm d3)]; exact rc8
    · rw [set_ne (Ne.symm d6)]; exact rn8
    · rw [set_ne (Ne.symm d9)]; exact rm8
    · exact get_set rr8
end Go.Proofs.Ytjaefngmidllgaa.St
