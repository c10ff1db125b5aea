/- The law's days. -/
import Derived.Test.YtfbpgnjeafadmaaRep
import Derived.Test.YtfbpgnjeafadmaaDayM
namespace Go.Proofs.Ytfbpgnjeafadmaa.Fl
open Go Go.Proofs.Ytfbpgnjeafadmaa Go.Proofs.Ytfbpgnjeafadmaa.AX
set_option maxRecDepth 100000

def iL (n : Nat) (f : Nat → Int) : List Int := (List.range n).map f
theorem iL_len (n : Nat) (f : Nat → Int) : (iL n f).length = n := by simp [iL]
theorem iL_get {n : Nat} (f : Nat → Int) {i : Nat} (hi : i < n) : (iL n f)[i]? = some (f i) := by
  simp [iL, List.getElem?_range hi]
theorem iL_g {n : Nat} (f : Nat → Int) {i : Nat} (hi : i < n) : g (iL n f) i = f i := by
  rw [g, List.getD_eq_getElem?_getD, iL_get f hi]; rfl
theorem iL_ext {n : Nat} {f h : Nat → Int} (e : ∀ b, b < n → f b = h b) : iL n f = iL n h :=
  List.map_congr_left fun b hb => e b (List.mem_range.1 hb)
theorem iL_set {n : Nat} (f : Nat → Int) (b : Nat) (v : Int) : (iL n f).set b v = iL n (updI f b v) := by
  refine List.ext_getElem? fun i => ?_
  rw [List.getElem?_set]
  by_cases hi : i < n
  · rw [iL_get _ hi, iL_get _ hi, iL_len]
    unfold updI
    split
    · rename_i h; subst h; simp [hi]
    · rename_i h; rw [if_neg (fun h' => h h'.symm)]
  · have h1 : ∀ f, (iL n f)[i]? = none := fun f => by simp [iL]; omega
    rw [h1, h1, iL_len]
    split
    · simp; omega
    · rfl
theorem st_l {H : AH} {w ver s n i : Nat} {f : Nat → Int} {x : Int} (hr : H[w]? = some (.row ((iL n f).map (.int .i64)) ver s false)) (hi : i < n) : storeV Try.prog 3 H (.ptr w i ver) (.int .i64 x) = some (none, H.set w (.row ((iL n (updI f i x)).map (.int .i64)) ver (min s i) false)) := by
  rw [store_row (P := Try.prog) (u := 3) (p := i) sc3 (x := .int .i64 x) (y := .int .i64 (f i)) rfl hr (by rw [List.getElem?_map, iL_get f hi]; rfl), ← List.map_set, iL_set]
theorem tb_inj {a b : Nat} (h : tb a = tb b) : a = b := Nat.eq_of_testBit_eq fun i => congrFun h i
theorem bit1 (b x : Nat) : (1 <<< b).testBit x = decide (b = x) := by
  rw [Nat.shiftLeft_eq, Nat.one_mul, Nat.testBit_two_pow]
theorem tb_upd (C b : Nat) : tb (C ||| 1 <<< b) = upd (tb C) b true := by
  funext x
  show (C ||| 1 <<< b).testBit x = if x = b then true else C.testBit x
  rw [Nat.testBit_or, bit1]
  by_cases h : x = b
  · subst h; simp
  · rw [if_neg h, decide_eq_false (fun e => h e.symm), Bool.or_false]
theorem tb_lt {m n : Nat} (h : m < 2 ^ n) (b : Nat) (hb : tb m b = true) : b < n := by
  apply Classical.byContradiction
  intro hn
  have : m.testBit b = false := Nat.testBit_lt_two_pow (Nat.lt_of_lt_of_le h (Nat.pow_le_pow_right (by decide) (by omega)))
  rw [show tb m b = m.testBit b from rfl, this] at hb
  cases hb
theorem or_lt {C b n : Nat} (h : C < 2 ^ n) (hb : b < n) : C ||| 1 <<< b < 2 ^ n := by
  refine Nat.or_lt_two_pow h ?_
  rw [Nat.shiftLeft_eq, Nat.one_mul]
  exact Nat.pow_lt_pow_right (by decide) hb
theorem p32 {m n : Nat} (hn : n ≤ 25) (h : m < 2 ^ n) : m < 4294967296 :=
  Nat.lt_of_lt_of_le h (Nat.le_trans (Nat.pow_le_pow_right (by decide) hn) (by decide))
/-- The days while a day goes on. -/
def dyj (r c : Nat) (O S : Nat → Bool) (t i b : Nat) : Int := if b < i then dayT r c O S (t + 1) b else dayT r c O S t b
/-- The days while the first bales are written. -/
def d0j (S : Nat → Bool) (j b : Nat) : Int := if (b : Int) ∈ (num S).take j then 0 else -1
theorem d0j_zero (S : Nat → Bool) : d0j S 0 = fun _ => -1 := by funext b; simp [d0j]
theorem d0j_succ {S : Nat → Bool} {j b : Nat} (hj : j < (num S).length) (hb : g (num S) j = b) : updI (d0j S j) b 0 = d0j S (j + 1) := by
  funext x
  unfold updI d0j
  rw [List.take_add_one, List.getElem?_eq_getElem hj, ← g_lt hj, hb]
  by_cases hx : x = b
  · subst hx; simp
  · rw [if_neg hx]
    have : ((x : Int) ∈ List.take j (num S) ++ (some (b : Int)).toList) ↔ ((x : Int) ∈ List.take j (num S)) := by
      simp; omega
    simp only [this]
theorem d0j_end {r c n : Nat} {O S : Nat → Bool} (hn : n ≤ 25) : iL n (d0j S (num S).length) = iL n (dyj r c O S 0 0) := by
  refine iL_ext fun b hb => ?_
  unfold d0j dyj dayT
  rw [List.take_length, if_neg (show ¬ b < 0 by omega)]
  show _ = if S b = true then _ else _
  cases hs : S b with
  | true =>
    rw [if_pos (mem_num.2 ⟨b, by omega, hs, rfl⟩), if_pos rfl]
    exact (day_new (t := 0) (by omega) rfl hs).symm
  | false =>
    have : ¬ (b : Int) ∈ num S := by
      intro hm
      obtain ⟨x, -, h2, h3⟩ := mem_num.1 hm
      have : x = b := by omega
      subst this
      rw [hs] at h2; cases h2
    rw [if_neg this, if_neg (by decide)]
theorem dyj_end {r c n : Nat} {O S : Nat → Bool} (t : Nat) : iL n (dyj r c O S t n) = iL n (dyj r c O S (t + 1) 0) := by
  refine iL_ext fun b hb => ?_
  unfold dyj
  rw [if_pos hb, if_neg (show ¬ b < 0 by omega)]
theorem dyj_t {r c i t : Nat} {O S : Nat → Bool} (ht : t < 25) (h1 : D r c 2 O S t i = false) (h2 : D r c 2 O S (t + 1) i = true) : updI (dyj r c O S t i) i ((t : Int) + 1) = dyj r c O S t (i + 1) := by
  funext b
  unfold updI dyj
  by_cases hb : b = i
  · subst hb
    rw [if_pos rfl, if_pos (by omega), dayT, if_pos h2, dayT_new ht h1 h2]
    simp
  · rw [if_neg hb]
    by_cases h : b < i
    · rw [if_pos h, if_pos (by omega)]
    · rw [if_neg h, if_neg (by omega)]
theorem dyj_f {r c i t : Nat} {O S : Nat → Bool} (h : D r c 2 O S (t + 1) i = D r c 2 O S t i) : dyj r c O S t i = dyj r c O S t (i + 1) := by
  funext b
  unfold dyj
  by_cases hb : b = i
  · subst hb
    rw [if_neg (by omega), if_pos (by omega)]
    unfold dayT
    rw [h]
  · by_cases h : b < i
    · rw [if_pos h, if_pos (by omega)]
    · rw [if_neg h, if_neg (by omega)]
theorem ldays_ac {r c n : Nat} (hs : Sd r c) (hn : r * c = n) (s z : Nat) (hsn : s < 2 ^ n) (hz : z < 4294967296) (H : AH) (Q : AV → AH → Prop) (h : ∀ v' H', OwnF H.length H' v' ((iL n (day r c (opn n (tb z)) (tb s))).map (.int .i64)) → Ext H H' → Q v' H') : AC Try.prog 45 [.agg [.int .i64 r, .int .i64 c], .int .u32 s, .int .u32 z] H Q := by
  have h25 := hs.le
  have hpos := hs.pos
  rw [hn] at h25 hpos
  obtain ⟨O, hO⟩ : ∃ O, opn n (tb z) = O := ⟨_, rfl⟩
  obtain ⟨S, hS⟩ : ∃ S, tb s = S := ⟨_, rfl⟩
  have hSn : ∀ b, S b = true → b < r * c := by rw [hn, ← hS]; exact tb_lt hsn
  rw [hO, hS] at h
  refine L_body 67 Try.func45 rfl rfl ?_
  refine L_reg [1, 2, 3] (fun K hK => ?_)
  simp [AV.isU, acells]
  apply hK; clear hK K
  have d3 : (H ++ [AObj.row [.int .i64 r, .int .i64 c] 0 0 false])[H.length]? = some (.row [.int .i64 r, .int .i64 c] 0 0 false) := by simp
  have hE : Ext H (H ++ [AObj.row [.int .i64 r, .int .i64 c] 0 0 false]) := .push _ _
  generalize H ++ [AObj.row [.int .i64 r, .int .i64 c] 0 0 false] = H1 at d3 hE ⊢
  have a0 := ld_f0 d3
  have a1 := ld_f1 d3
  have em : (r : Int) * c = n := by rw [← hn]; simp
  have row22 : rowV Try.prog 22 1 [(0, .int .i64 (-1))] H1 = some (some (.slice (some H1.length) 0 1 0 1 false), H1 ++ [.row [.int .i64 (-1)] 0 1 false]) := row1 el22 rfl rfl
  have hE2 : Ext H1 (H1 ++ [AObj.row [.int .i64 (-1)] 0 1 false]) := .push _ _
  have hLs : Ls (H1 ++ [AObj.row [.int .i64 (-1)] 0 1 false]) (.slice (some H1.length) 0 1 0 1 false) [-1] := Ls.row (l := [-1]) (ro := false) (s := 1) (by simp) false
  refine L_reg [1, 2, 3, 7] (fun K hK => ?_)
  have b0 := ld_f0 (hE2.row d3)
  have b1' := ld_f1 (hE2.row d3)
  simp [okFn_low, row22, b0, b1', em, wrap_i64 (a := (n : Int)) (by omega)]
  refine repeat_ac _ n hpos h25 _ _ hLs (fun v H2 hO2 hE3 => ?_)
  simp
  apply hK; clear hK K
  have hl1 : H.length + 1 ≤ H1.length := by
    have := (List.getElem?_eq_some_iff.1 d3).1
    omega
  replace d3 := hE3.row (hE2.row d3)
  replace hE := (hE.trans hE2).trans hE3
  obtain ⟨w, ver, st, hw, rfl, dw⟩ : ∃ w ver st, H.length + 1 ≤ w ∧ v = .slice (some w) 0 n ver 1 false ∧ H2[w]? = some (.row ((iL n fun _ => -1).map (.int .i64)) ver st false) := by
    rcases hO2 with ⟨h0, -⟩ | ⟨r', ver, stale, hr, hv, hrow⟩
    · exfalso
      have := congrArg List.length h0
      simp at this; omega
    · have e : List.replicate n (-1 : Int) = iL n fun _ => -1 := by
        refine List.ext_getElem? fun i => ?_
        by_cases hi : i < n
        · rw [iL_get _ hi, List.getElem?_replicate, if_pos hi]
        · rw [List.getElem?_replicate, if_neg hi]; exact (List.getElem?_eq_none (by rw [iL_len]; omega)).symm
      refine ⟨r', ver, stale, ?_, by simpa using hv, by rw [← e]; exact hrow⟩
      simp at hr; omega
  clear a0 a1 b0 b1' row22 hE2 hE3 hLs hO2 hl1
  refine L_reg [1, 2, 3, 7, 21, 22, 23] (fun K hK => ?_)
  simp [okFn_low]
  refine bits_ac s (p32 h25 hsn) _ _ (fun v H3 hN hE3 => ?_)
  rw [hS] at hN
  have hOb := hN.2
  have hv := ownF_ls hOb
  simp [ls_len hv]
  apply hK; clear hK K
  have hwl : w < H2.length := (List.getElem?_eq_some_iff.1 dw).1
  replace d3 := hE3.row d3
  replace dw := hE3.row dw
  replace hE := hE.trans hE3
  clear hE3 hN hv
  obtain ⟨N, hN⟩ : ∃ N, H2.length = N := ⟨_, rfl⟩
  rw [hN] at hwl hOb
  have hnl := num_len S
  refine L_block (L_loopV [23] (fun q vs H' => ∃ (j s : Nat), q = (num S).length - j ∧ j ≤ (num S).length ∧ vs = [.int .i64 j] ∧ Ext H H' ∧ OwnF N H' v ((num S).map (.int .i64)) ∧ H'[H.length]? = some (.row [.int .i64 r, .int .i64 c] 0 0 false) ∧ H'[w]? = some (.row ((iL n (d0j S j)).map (.int .i64)) ver s false)) _ [.int .i64 (0 : Nat)] rfl ⟨0, st, rfl, by omega, rfl, hE, hOb, d3, by rw [d0j_zero]; exact dw⟩ ?_)
  clear hE d3 dw hOb H3
  rintro q _ H3 ⟨j, st, rfl, hj, rfl, hE, hOb, d3, dw⟩
  have hv := ownF_ls hOb
  refine L_reg [1, 2, 3, 7, 21, 22, 23, 24] (fun K hK => ?_)
  simp
  apply hK; clear hK K
  refine L_dec (j < (num S).length) (by simp) (fun hlt => ?_) (fun hge => L_exit ?_)
  · refine L_block ?_
    obtain ⟨rz, pz, vz, hix, hldz⟩ := ls_ix hv hlt
    obtain ⟨b, hb, hb25, hSb⟩ := num_at hlt
    have hbn : b < n := by rw [← hn]; exact hSn b hSb
    rw [hb] at hldz
    have hst := st_l (x := 0) dw hbn
    rw [d0j_succ hlt hb] at hst
    refine L_reg [1, 2, 3, 7, 9, 21, 22, 23] (fun K hK => ?_)
    simp [hix, hldz]
    apply hK; clear hK K
    refine L_reg [1, 2, 3, 7, 21, 22, 23] (fun K hK => ?_)
    simp [hbn, hst]
    apply hK; clear hK K
    refine L_reg [1, 2, 3, 7, 21, 22, 23] (fun K hK => ?_)
    simp [wrap_i64 (a := (j : Int) + 1) (by omega)]
    apply hK; clear hK K
    refine ⟨(num S).length - (j + 1), [.int .i64 (j + 1 : Nat)], by omega, by simp, j + 1, min st b, rfl, by omega, rfl, hE.set _ (by omega), ownF_keep hOb fun i o hi ho => by rw [List.getElem?_set_ne (by omega)]; exact ho, ?_, get_set dw⟩
    rw [List.getElem?_set_ne (by omega)]; exact d3
  have hje : j = (num S).length := by omega
  rw [hje, d0j_end (r := r) (c := c) (O := O) h25] at dw
  clear hv hOb hge hje hj hN hwl
  refine L_reg [1, 2, 3, 7, 10] (fun K hK => ?_)
  simp
  apply hK; clear hK K
  refine L_block (L_loopV [1, 10] (fun q vs H' => ∃ (t m st : Nat), q = n + 1 - t ∧ t ≤ n ∧ vs = [.int .u32 m, .int .i64 (t + 1 : Nat)] ∧ tb m = D r c 2 O S t ∧ m < 2 ^ n ∧ Ext H H' ∧ H'[H.length]? = some (.row [.int .i64 r, .int .i64 c] 0 0 false) ∧ H'[w]? = some (.row ((iL n (dyj r c O S t 0)).map (.int .i64)) ver st false)) _ [.int .u32 s, .int .i64 ((0 + 1 : Nat) : Int)] rfl ⟨0, s, st, rfl, by omega, rfl, hS, hsn, hE, d3, dw⟩ ?_)
  clear hE d3 dw H3
  rintro q _ H3 ⟨t, m, st, rfl, htn, rfl, htm, hmn, hE, d3, dw⟩
  refine L_block ?_
  refine L_reg [1, 2, 3, 7, 10, 11] (fun K hK => ?_)
  simp
  apply hK; clear hK K
  refine L_reg [1, 2, 3, 7, 10, 11, 35, 36] (fun K hK => ?_)
  simp
  apply hK; clear hK K
  refine L_block (L_loopV [11, 36] (fun q vs H' => ∃ (i x st : Nat), q = n - i ∧ i ≤ n ∧ vs = [.int .u32 x, .int .i64 i] ∧ tb x = nxp r c 2 O (tb m) i ∧ x < 2 ^ n ∧ Ext H H' ∧ H'[H.length]? = some (.row [.int .i64 r, .int .i64 c] 0 0 false) ∧ H'[w]? = some (.row ((iL n (dyj r c O S t i)).map (.int .i64)) ver st false)) _ [.int .u32 m, .int .i64 (0 : Nat)] rfl ⟨0, m, st, rfl, by omega, rfl, by rw [nxp_zero], hmn, hE, d3, dw⟩ ?_)
  clear hE d3 dw H3
  rintro q _ H3 ⟨i, x, st, rfl, hi, rfl, hx, hxn, hE, d3, dw⟩
  refine L_reg [1, 2, 3, 7, 10, 11, 35, 36, 37] (fun K hK => ?_)
  simp
  apply hK; clear hK K
  refine L_dec (i < n) (by simp) (fun hlt => ?_) (fun hge => L_exit ?_)
  · refine L_block ?_
    have hm32 := p32 h25 hmn
    have a3 := ldn_f d3
    have hor := n_or32 (P := Try.prog) (t := 53) (l := false) m z hm32 hz
    obtain ⟨y, hy⟩ : ∃ y, m ||| z = y := ⟨_, rfl⟩
    have hy32 : y < 4294967296 := by rw [← hy]; exact Nat.or_lt_two_pow (n := 32) hm32 hz
    have hybit : y.testBit i = (m.testBit i || z.testBit i) := by rw [← hy, Nat.testBit_or]
    have hor' : ∀ tt ll, binV Try.prog .or tt ll (.int .u32 (m : Int)) (.int .u32 (z : Int)) = some (.int .u32 (y : Int)) := fun tt ll => by rw [n_or32 m z hm32 hz, hy]
    have hOi : O i = !z.testBit i := by
      rw [← hO]
      show (decide (i < n) && !tb z i) = _
      rw [decide_eq_true hlt]; rfl
    have hcur : D r c 2 O S t i = m.testBit i := by rw [← htm]; rfl
    have hnx : D r c 2 O S (t + 1) i = (m.testBit i || (O i && decide (2 ≤ bes r c (tb m) i))) := by
      rw [D_succ, ← htm]
      show (m.testBit i || (decide (i < r * c) && (O i && _))) = _
      rw [hn, decide_eq_true hlt]; rfl
    obtain ⟨e, he⟩ : ∃ e, (!y.testBit i && decide (2 ≤ bes r c (tb m) i)) = e := ⟨_, rfl⟩
    refine L_reg [1, 2, 3, 7, 10, 11, 12, 35, 36] (fun K hK => ?_)
    simp
    apply hK; clear hK K
    refine L_reg [1, 2, 3, 7, 10, 11, 12, 35, 36, 52] (fun K hK => ?_)
    suffices hk : K [(1, .int .u32 m), (2, .int .u32 z), (3, .ptr H.length 0 0), (7, .slice (some w) 0 n ver 1 false), (10, .int .i64 (t + 1 : Nat)), (11, .int .u32 x), (12, .int .i64 i), (35, .int .i64 n), (36, .int .i64 i), (52, .bool e)] H3 by
      cases hyi : y.testBit i with
      | true =>
        rw [hyi] at he
        have he : false = e := he
        subst he
        simp [hor', n_shr' (k := .u32) y i (by simp [IntKind.bits]; omega), bit32 y i hy32, hyi, b1, pickV]
        exact hk
      | false =>
        rw [hyi] at he
        have e2 : decide ((1 : Int) < (bes r c (tb m) i : Nat)) = decide (2 ≤ bes r c (tb m) i) := decide_eq_decide.2 (by omega)
        have he : decide (2 ≤ bes r c (tb m) i) = e := by simpa using he
        simp [okFn_low, hor', n_shr' (k := .u32) y i (by simp [IntKind.bits]; omega), bit32 y i hy32, hyi, b1, a3]
        refine near_q hs hn i hlt m hm32 _ _ ?_
        simp [pickV]
        rw [e2, he]
        exact hk
    apply hK; clear hK K
    cases e with
    | true =>
      simp only [Bool.and_eq_true, Bool.not_eq_true', decide_eq_true_eq] at he
      obtain ⟨hy0, hb2⟩ := he
      rw [hybit, Bool.or_eq_false_iff] at hy0
      have hOt : O i = true := by rw [hOi, hy0.2]; rfl
      have g2 : D r c 2 O S (t + 1) i = true := by rw [hnx, hOt, decide_eq_true hb2]; simp
      have htn3 : t ≠ n := by
        intro e
        have := congrFun (D_fix (k := 2) (O := O) hSn) i
        rw [hn, ← e, g2, hcur, hy0.1] at this
        cases this
      have hst := st_l (x := (t : Int) + 1) dw hlt
      rw [dyj_t (by omega) (by rw [hcur, hy0.1]) g2] at hst
      have hshl : ∀ tt ll, binV Try.prog .shl tt ll (.int .u32 1) (.int .i64 (i : Int)) = some (.int .u32 ((1 <<< i : Nat) : Int)) := fun tt ll => n_shl32 i (by omega)
      have h1i : 1 <<< i < 4294967296 := by
        rw [Nat.shiftLeft_eq, Nat.one_mul]
        exact Nat.lt_of_lt_of_le (Nat.pow_lt_pow_right (by decide) (show i < 32 by omega)) (by decide)
      have hx32 := p32 h25 hxn
      obtain ⟨sh, hsh⟩ : ∃ sh, 1 <<< i = sh := ⟨_, rfl⟩
      rw [hsh] at h1i
      have hor2 : ∀ tt ll, binV Try.prog .or tt ll (.int .u32 (x : Int)) (.int .u32 (sh : Int)) = some (.int .u32 ((x ||| sh : Nat) : Int)) := fun tt ll => n_or32 x sh hx32 h1i
      simp only [hsh] at hshl
      refine L_true (by simp) ?_
      refine L_reg [1, 2, 3, 7, 10, 11, 12, 35, 36] (fun K hK => ?_)
      simp [hlt, hst]
      apply hK; clear hK K
      refine L_reg [1, 2, 3, 7, 10, 11, 35, 36] (fun K hK => ?_)
      simp [hshl, hor2]
      apply hK; clear hK K
      refine L_reg [1, 2, 3, 7, 10, 11, 35, 36] (fun K hK => ?_)
      simp [wrap_i64 (a := (i : Int) + 1) (by omega)]
      apply hK; clear hK K
      refine ⟨n - (i + 1), [.int .u32 (x ||| sh : Nat), .int .i64 (i + 1 : Nat)], by omega, by simp, i + 1, x ||| sh, min st i, rfl, by omega, rfl, ?_, by rw [← hsh]; exact or_lt hxn hlt, hE.set _ (by omega), ?_, get_set dw⟩
      · rw [← hsh, tb_upd, hx]
        exact nxp_succ_t (by rw [hOt, decide_eq_true hb2]; rfl)
      · rw [List.getElem?_set_ne (by omega)]; exact d3
    | false =>
      have hno : D r c 2 O S (t + 1) i = D r c 2 O S t i := by
        rw [hnx, hcur, hOi]
        rw [hybit] at he
        cases h1 : m.testBit i <;> cases h2 : z.testBit i <;> simp_all
      have hx2 : nxp r c 2 O (tb m) i = nxp r c 2 O (tb m) (i + 1) := by
        by_cases hmi : m.testBit i = true
        · funext b
          unfold nxp
          by_cases hb : b = i
          · subst hb
            have : tb m b = true := hmi
            simp [this]
          · have : (decide (b < i)) = decide (b < i + 1) := decide_eq_decide.2 (by omega)
            rw [this]
        · refine nxp_succ_f ?_
          rw [hybit] at he
          rw [hOi]
          cases h2 : z.testBit i <;> simp_all
      rw [dyj_f hno] at dw
      refine L_false (by simp) ?_
      refine L_reg [1, 2, 3, 7, 10, 11, 35, 36] (fun K hK => ?_)
      simp [wrap_i64 (a := (i : Int) + 1) (by omega)]
      apply hK; clear hK K
      exact ⟨n - (i + 1), [.int .u32 x, .int .i64 (i + 1 : Nat)], by omega, by simp, i + 1, x, st, rfl, by omega, rfl, by rw [hx, hx2], hxn, hE, d3, dw⟩
  have hie : i = n := by omega
  rw [hie] at hx dw
  have hx : tb x = D r c 2 O S (t + 1) := by
    rw [hx, htm, D_succ, ← nxp_all, hn]
  rw [dyj_end] at dw
  refine L_reg [2, 3, 7, 10, 11, 64] (fun K hK => ?_)
  simp
  apply hK; clear hK K
  by_cases hxm : x = m
  · have hst : D r c 2 O S (t + 1) = D r c 2 O S t := by rw [← hx, hxm, htm]
    refine L_true (by simp [hxm]) ?_
    refine L_reg [6] (fun K hK => ?_)
    simp
    apply hK; clear hK K
    have e5 : iL n (dyj r c O S (t + 1) 0) = iL n (day r c O S) := iL_ext fun b hb => by
      unfold dyj
      rw [if_neg (show ¬ b < 0 by omega)]
      refine dayT_end hSn (by rw [hn]; exact h25) b ?_
      rw [hst]
      exact sp_stop hSn hst
    rw [e5] at dw
    exact L_ret ⟨.inr rfl, _, rfl, h _ H3 (.inr ⟨w, ver, st, by omega, by simp [iL_len], dw⟩) hE⟩
  · have htn2 : t ≠ n := by
      intro e
      apply hxm
      apply tb_inj
      rw [hx, htm, e, ← hn, D_fix hSn]
    refine L_false (by simp; omega) ?_
    refine L_reg [1, 2, 3, 7, 10] (fun K hK => ?_)
    simp
    apply hK; clear hK K
    refine L_reg [1, 2, 3, 7, 10] (fun K hK => ?_)
    simp [wrap_i64 (a := (t : Int) + 1 + 1) (by omega)]
    apply hK; clear hK K
    exact ⟨n + 1 - (t + 1), [.int .u32 x, .int .i64 (t + 1 + 1 : Nat)], by omega, by simp <;> omega, t + 1, x, st, rfl, by omega, rfl, hx, hxn, hE, d3, dw⟩
end Go.Proofs.Ytfbpgnjeafadmaa.Fl
