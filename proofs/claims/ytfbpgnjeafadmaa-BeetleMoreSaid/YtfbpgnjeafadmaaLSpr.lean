/- The law's spread and outline; slices.Reverse. -/
import Derived.Test.YtfbpgnjeafadmaaLDays
namespace Go.Proofs.Ytfbpgnjeafadmaa.Fl
open Go Go.Proofs.Ytfbpgnjeafadmaa Go.Proofs.Ytfbpgnjeafadmaa.AX
set_option maxRecDepth 100000

/-- A set as a number. -/
def mOf (S : Nat → Bool) : Nat → Nat
  | 0 => 0
  | n + 1 => if S n then mOf S n ||| 1 <<< n else mOf S n
theorem mOf_tb (S : Nat → Bool) (b : Nat) : ∀ n, (mOf S n).testBit b = (decide (b < n) && S b)
  | 0 => by simp [mOf]
  | n + 1 => by
    have ih := mOf_tb S b n
    unfold mOf
    by_cases hb : b = n
    · subst hb
      have e : decide (b < b) = false := by simp
      rw [e] at ih
      have e2 : decide (b < b + 1) = true := by simp
      rw [e2]
      cases hs : S b with
      | true => rw [if_pos rfl, Nat.testBit_or, bit1]; simp
      | false => rw [if_neg (by decide), ih]; rfl
    · have e : decide (b < n + 1) = decide (b < n) := decide_eq_decide.2 (by omega)
      rw [e, ← ih]
      split
      · rw [Nat.testBit_or, bit1, decide_eq_false (fun h => hb h.symm), Bool.or_false]
      · rfl
theorem mOf_fun {S : Nat → Bool} {n : Nat} (h : ∀ b, S b = true → b < n) : tb (mOf S n) = S := by
  funext b
  show (mOf S n).testBit b = S b
  rw [mOf_tb]
  cases hs : S b with
  | true => rw [decide_eq_true (h b hs)]; rfl
  | false => simp
theorem mOf_lt (S : Nat → Bool) : ∀ {n m : Nat}, n ≤ m → mOf S n < 2 ^ m
  | 0, m, _ => by simp [mOf]; exact Nat.two_pow_pos m
  | n + 1, m, h => by
    unfold mOf
    split
    · exact or_lt (mOf_lt S (by omega)) (by omega)
    · exact mOf_lt S (by omega)
theorem day_sp {r c : Nat} {O S : Nat → Bool} (hS : ∀ b, S b = true → b < r * c) (h25 : r * c ≤ 25) (b : Nat) : (0 ≤ day r c O S b) ↔ sp r c 2 O S b = true := by
  have h := day_iff (t := 25) (b := b) (r := r) (c := c) (O := O) (S := S) (by omega)
  rw [D_end hS h25] at h
  constructor
  · intro h0; exact h.1 ⟨h0, (day_range b).2⟩
  · intro h0; exact (h.2 h0).1
theorem lspread_q {r c n : Nat} (hs : Sd r c) (hn : r * c = n) (s z : Nat) (hsn : s < 2 ^ n) (hz : z < 4294967296) (H : AH) (Q : AV → AH → Prop) (h : Q (.int .u32 (mOf (sp r c 2 (opn n (tb z)) (tb s)) n : Nat)) H) : AC Try.prog 42 [.agg [.int .i64 r, .int .i64 c], .int .u32 s, .int .u32 z] H Q := by
  refine AC.quiet (belB_int _ _ _ _) (fun Q h => ?_) Q h
  have h25 := hs.le
  rw [hn] at h25
  have hSn : ∀ b, tb s b = true → b < r * c := by rw [hn]; exact tb_lt hsn
  refine L_body 28 Try.func42 rfl rfl ?_
  refine L_reg [1, 2, 3] (fun K hK => ?_)
  simp [AV.isU, acells]
  apply hK; clear hK K
  have d3 : (H ++ [AObj.row [.int .i64 r, .int .i64 c] 0 0 false])[H.length]? = some (.row [.int .i64 r, .int .i64 c] 0 0 false) := by simp
  have hE : Ext H (H ++ [AObj.row [.int .i64 r, .int .i64 c] 0 0 false]) := .push _ _
  generalize H ++ [AObj.row [.int .i64 r, .int .i64 c] 0 0 false] = H1 at d3 hE ⊢
  have a3 := ldn_f d3
  refine L_reg [1, 2, 3, 7] (fun K hK => ?_)
  simp
  apply hK; clear hK K
  refine L_reg [7, 13, 14, 15] (fun K hK => ?_)
  simp [okFn_low, a3]
  refine ldays_ac hs hn s z hsn hz _ _ (fun v H2 hO hE2 => ?_)
  have hv := ownF_ls hO
  have hl := ls_len hv
  rw [iL_len] at hl
  simp [hl]
  apply hK; clear hK K
  replace hE := hE.trans hE2
  clear a3 hE2 d3 hl hO
  have hO' : ∀ b, 0 ≤ day r c (opn n (tb z)) (tb s) b ↔ sp r c 2 (opn n (tb z)) (tb s) b = true := day_sp hSn (by rw [hn]; exact h25)
  generalize sp r c 2 (opn n (tb z)) (tb s) = A at *
  generalize day r c (opn n (tb z)) (tb s) = f at *
  refine L_block (L_loopV [7, 15] (fun q vs H' => ∃ i : Nat, q = n - i ∧ i ≤ n ∧ vs = [.int .u32 (mOf A i : Nat), .int .i64 i] ∧ H2 = H') _ [.int .u32 (mOf A 0 : Nat), .int .i64 (0 : Nat)] rfl ⟨0, rfl, by omega, rfl, rfl⟩ ?_)
  rintro q _ _ ⟨i, rfl, hi, rfl, rfl⟩
  refine L_reg [7, 13, 14, 15, 16] (fun K hK => ?_)
  simp
  apply hK; clear hK K
  refine L_dec (i < n) (by simp) (fun hlt => ?_) (fun hge => L_exit ?_)
  · refine L_block ?_
    obtain ⟨rz, pz, vz, hix, hldz⟩ := ls_ix hv (i := i) (by rw [iL_len]; exact hlt)
    rw [iL_g f hlt] at hldz
    have hm25 : mOf A i < 2 ^ n := mOf_lt A hi
    have hm32 := p32 h25 hm25
    have hstep : mOf A (i + 1) = if A i then mOf A i ||| 1 <<< i else mOf A i := rfl
    obtain ⟨x, hx⟩ : ∃ x, mOf A i = x := ⟨_, rfl⟩
    rw [hx] at hm32 hstep
    rw [hx]
    refine L_reg [7, 8, 9, 13, 14, 15] (fun K hK => ?_)
    simp [hix, hldz]
    apply hK; clear hK K
    refine L_reg [7, 8, 13, 14, 15, 21] (fun K hK => ?_)
    simp
    apply hK; clear hK K
    by_cases hfi : 0 ≤ f i
    · have hA : A i = true := (hO' i).1 hfi
      rw [hA, if_pos rfl] at hstep
      have hshl : ∀ tt ll, binV Try.prog .shl tt ll (.int .u32 1) (.int .i64 (i : Int)) = some (.int .u32 ((1 <<< i : Nat) : Int)) := fun tt ll => n_shl32 i (by omega)
      have h1i : 1 <<< i < 4294967296 := by
        rw [Nat.shiftLeft_eq, Nat.one_mul]
        exact Nat.lt_of_lt_of_le (Nat.pow_lt_pow_right (by decide) (show i < 32 by omega)) (by decide)
      obtain ⟨sh, hsh⟩ : ∃ sh, 1 <<< i = sh := ⟨_, rfl⟩
      rw [hsh] at h1i hstep
      have hor2 : ∀ tt ll, binV Try.prog .or tt ll (.int .u32 (x : Int)) (.int .u32 (sh : Int)) = some (.int .u32 ((x ||| sh : Nat) : Int)) := fun tt ll => n_or32 x sh hm32 h1i
      simp only [hsh] at hshl
      refine L_true (by simp [hfi]) ?_
      refine L_reg [7, 13, 14, 15] (fun K hK => ?_)
      simp [hshl, hor2]
      apply hK; clear hK K
      refine L_reg [7, 13, 14, 15] (fun K hK => ?_)
      simp [wrap_i64 (a := (i : Int) + 1) (by omega)]
      apply hK; clear hK K
      exact ⟨n - (i + 1), [.int .u32 (x ||| sh : Nat), .int .i64 (i + 1 : Nat)], by omega, by simp, i + 1, rfl, by omega, by rw [hstep], rfl⟩
    · have hA : A i = false := by
        cases h : A i with
        | false => rfl
        | true => exact absurd ((hO' i).2 h) hfi
      rw [hA, if_neg (by decide)] at hstep
      refine L_false (by simp; omega) ?_
      refine L_reg [7, 13, 14, 15] (fun K hK => ?_)
      simp [wrap_i64 (a := (i : Int) + 1) (by omega)]
      apply hK; clear hK K
      exact ⟨n - (i + 1), [.int .u32 x, .int .i64 (i + 1 : Nat)], by omega, by simp, i + 1, rfl, by omega, by rw [hstep], rfl⟩
  · have e : i = n := by omega
    subst e
    refine L_reg [6] (fun K hK => ?_)
    simp
    apply hK; clear hK K
    exact L_ret ⟨.inr rfl, _, rfl, h _ hE⟩
theorem loutline_q {r c n : Nat} (hs : Sd r c) (hn : r * c = n) (s : Nat) (hsn : s < 2 ^ n) (H : AH) (Q : AV → AH → Prop) (h : Q (.int .i64 (ol r c (tb s))) H) : AC Try.prog 41 [.agg [.int .i64 r, .int .i64 c], .int .u32 s] H Q := by
  refine AC.quiet (belB_int _ _ _ _) (fun Q h => ?_) Q h
  have h25 := hs.le
  rw [hn] at h25
  have hs32 := p32 h25 hsn
  refine L_body 24 Try.func41 rfl rfl ?_
  refine L_reg [1, 2] (fun K hK => ?_)
  simp [AV.isU, acells]
  apply hK; clear hK K
  have h1 : (H ++ [AObj.row [.int .i64 r, .int .i64 c] 0 0 false])[H.length]? = some (.row [.int .i64 r, .int .i64 c] 0 0 false) := by simp
  have hE : Ext H (H ++ [AObj.row [.int .i64 r, .int .i64 c] 0 0 false]) := .push _ _
  generalize H ++ [AObj.row [.int .i64 r, .int .i64 c] 0 0 false] = H1 at h1 hE ⊢
  refine L_reg [1, 2, 5] (fun K hK => ?_)
  simp
  apply hK; clear hK K
  refine L_reg [1, 2, 5, 9, 10, 11] (fun K hK => ?_)
  simp [okFn_low]
  refine bits_ac s hs32 _ _ (fun v H2 hN hE2 => ?_)
  have hv := ownF_ls hN.2
  clear hN
  simp [ls_len hv]
  apply hK; clear hK K
  have hnl := num_len (tb s)
  replace h1 := hE2.row h1
  replace hE := hE.trans hE2
  clear hE2 
  have a1 := ldn_f h1
  generalize hS : tb s = S at *
  have hSn : ∀ b, S b = true → b < n := by rw [← hS]; exact tb_lt hsn
  refine L_block (L_loopV [5, 11] (fun q vs H' => ∃ i : Nat, q = (num S).length - i ∧ i ≤ (num S).length ∧ vs = [.int .i64 (olT r c S (num S) i), .int .i64 i] ∧ H2 = H') _ [.int .i64 0, .int .i64 (0 : Nat)] rfl ⟨0, rfl, by omega, rfl, rfl⟩ ?_)
  rintro q _ _ ⟨i, rfl, hi, rfl, rfl⟩
  refine L_reg [1, 2, 5, 9, 10, 11, 12] (fun K hK => ?_)
  simp
  apply hK; clear hK K
  refine L_dec (i < (num S).length) (by simp) (fun hlt => ?_) (fun hge => L_exit ?_)
  · refine L_block ?_
    obtain ⟨rz, pz, vz, hix, hldz⟩ := ls_ix hv hlt
    obtain ⟨b, hb, hb25, hSb⟩ := num_at hlt
    have hst := olT_succ (r := r) (c := c) (S := S) hlt
    have hr0 := olT_range r c S (num S) i (by omega)
    rw [hb] at hldz hst
    have hside : sideS r c S (b : Int) = 4 - (bes r c S b : Nat) := rfl
    have hbl := bes_le (r := r) (c := c) S b
    rw [hside] at hst
    have hnear : ∀ (H : AH) (Q : AV → AH → Prop), Q (.int .i64 (bes r c S b : Nat)) H → AC Try.prog 46 [.agg [.int .i64 r, .int .i64 c], .int .u32 s, .int .i64 b] H Q := fun H Q hQ => near_q hs hn b (hSn b hSb) s hs32 H Q (by rw [hS]; exact hQ)
    obtain ⟨m, hm⟩ : ∃ m, bes r c S b = m := ⟨_, rfl⟩
    rw [hm] at hst hbl hnear
    obtain ⟨o, ho⟩ : ∃ o, olT r c S (num S) i = o := ⟨_, rfl⟩
    rw [ho] at hst hr0 ⊢
    refine L_reg [1, 2, 5, 7, 9, 10, 11] (fun K hK => ?_)
    simp [hix, hldz]
    apply hK; clear hK K
    have w1 : IntKind.i64.wrap (4 - (m : Int)) = 4 - m := wrap_i64 (by omega)
    have w2 : IntKind.i64.wrap (o + (4 - (m : Int))) = o + (4 - m) := wrap_i64 (by omega)
    refine L_reg [1, 2, 5, 9, 10, 11] (fun K hK => ?_)
    simp [okFn_low, a1]
    refine hnear _ _ ?_
    simp [w1, w2]
    apply hK; clear hK K
    refine L_reg [1, 2, 5, 9, 10, 11] (fun K hK => ?_)
    simp [wrap_i64 (a := (i : Int) + 1) (by omega)]
    apply hK; clear hK K
    exact ⟨(num S).length - (i + 1), [.int .i64 (olT r c S (num S) (i + 1)), .int .i64 (i + 1 : Nat)], by omega, by rw [hst]; simp, i + 1, rfl, by omega, rfl, rfl⟩
  · obtain rfl : i = (num S).length := by omega
    have e : olT r c S (num S) (num S).length = ol r c S := by unfold olT ol; rw [List.take_length]
    rw [e]
    refine L_reg [4] (fun K hK => ?_)
    simp
    apply hK; clear hK K
    exact L_ret ⟨.inr rfl, _, rfl, h _ hE⟩
/-- A list that is turned round at both ends. -/
def rv (l : List Int) (i k : Nat) : Int := if k < i ∨ l.length ≤ k + i then g l (l.length - 1 - k) else g l k
theorem iL_self (l : List Int) : iL l.length (g l) = l := by
  refine List.ext_getElem? fun i => ?_
  by_cases hi : i < l.length
  · rw [iL_get _ hi, List.getElem?_eq_getElem hi, g_lt hi]
  · rw [List.getElem?_eq_none (by rw [iL_len]; omega), List.getElem?_eq_none (by omega)]
theorem rv_zero (l : List Int) : iL l.length (rv l 0) = l := by
  rw [show iL l.length (rv l 0) = iL l.length (g l) from iL_ext fun b hb => by unfold rv; rw [if_neg (by omega)], iL_self]
theorem rv_end {l : List Int} {i : Nat} (h : l.length ≤ 2 * i + 1) : iL l.length (rv l i) = l.reverse := by
  refine List.ext_getElem? fun k => ?_
  by_cases hk : k < l.length
  · rw [iL_get _ hk, List.getElem?_reverse hk, List.getElem?_eq_getElem (by omega), ← g_lt (by omega)]
    unfold rv
    split
    · rfl
    · rw [show l.length - 1 - k = k by omega]
  · rw [List.getElem?_eq_none (by rw [iL_len]; omega), List.getElem?_eq_none (by rw [List.length_reverse]; omega)]
theorem rv_succ {l : List Int} {i j : Nat} (hj : i + 1 + j = l.length) (hij : i < j) : iL l.length (updI (updI (rv l i) i (rv l i j)) j (rv l i i)) = iL l.length (rv l (i + 1)) := by
  refine iL_ext fun k hk => ?_
  unfold updI rv
  rw [if_neg (show ¬ (j < i ∨ l.length ≤ j + i) by omega), if_neg (show ¬ (i < i ∨ l.length ≤ i + i) by omega)]
  by_cases h1 : k = j
  · subst h1
    rw [if_pos rfl, if_pos (by omega), show l.length - 1 - k = i by omega]
  · rw [if_neg h1]
    by_cases h2 : k = i
    · subst h2
      rw [if_pos rfl, if_pos (by omega), show l.length - 1 - k = j by omega]
    · rw [if_neg h2]
      by_cases h3 : k < i ∨ l.length ≤ k + i
      · rw [if_pos h3, if_pos (by omega)]
      · rw [if_neg h3, if_neg (by omega)]
theorem reverse_ac (w ver s : Nat) (l : List Int) (H : AH) (Q : AV → AH → Prop) (hw : H[w]? = some (.row (l.map (.int .i64)) ver s false)) (hl : l.length ≤ 1000000) (h : ∀ s', Q (.tuple []) (H.set w (.row (l.reverse.map (.int .i64)) ver s' false))) : AC Try.prog 84 [.slice (some w) 0 l.length ver 1 false] H Q := by
  refine L_body 28 Try.func84 rfl rfl ?_
  obtain ⟨n, hn⟩ : ∃ n, l.length = n := ⟨_, rfl⟩
  have hww : IntKind.i64.wrap ((n : Int) - 1) = (n : Int) - 1 := wrap_i64 (by omega)
  have hz := rv_zero l
  rw [← hz] at hw
  have hHs : H.set w (.row ((iL l.length (rv l 0)).map (.int .i64)) ver s false) = H := by
    apply List.ext_getElem?
    intro j
    rw [List.getElem?_set]
    split
    · rename_i e; subst e
      rw [hw, if_pos (List.getElem?_eq_some_iff.1 hw).1]
    · rfl
  have hwl : w < H.length := (List.getElem?_eq_some_iff.1 hw).1
  have hsucc := @rv_succ l
  have hend := @rv_end l
  rw [hn] at hw hHs hsucc hend ⊢
  refine L_reg [0, 2, 3] (fun K hK => ?_)
  simp [hww]
  apply hK; clear hK K
  refine L_block (L_loopV [2, 3] (fun q vs H' => ∃ (i s' : Nat), q = n - i ∧ 2 * i ≤ n + 1 ∧ i ≤ n ∧ vs = [.int .i64 i, .int .i64 ((n : Int) - 1 - i)] ∧ H' = H.set w (.row ((iL n (rv l i)).map (.int .i64)) ver s' false)) _ [.int .i64 (0 : Nat), .int .i64 ((n : Int) - 1)] rfl ⟨0, s, rfl, by omega, by omega, by simp, hHs.symm⟩ ?_)
  rintro q _ H1 ⟨i, s', rfl, h2i, hin, rfl, hH1⟩
  have hrow : H1[w]? = some (.row ((iL n (rv l i)).map (.int .i64)) ver s' false) := by rw [hH1]; simp [hwl]
  refine L_reg [0, 2, 3, 9] (fun K hK => ?_)
  simp
  apply hK; clear hK K
  refine L_dec ((i : Int) < (n : Int) - 1 - i) (by simp) (fun hlt => ?_) (fun hge => L_exit ?_)
  · obtain ⟨j, hj⟩ : ∃ j : Nat, n = i + 1 + j := ⟨n - i - 1, by omega⟩
    have hji : (n : Int) - 1 - i = (j : Int) := by omega
    have hld : ∀ x, x < n → ld H1 w x ver = some (.int .i64 (rv l i x)) := by
      intro x hx
      rw [ld_row hrow, List.getElem?_map, iL_get _ hx]; rfl
    have hx := hld i (by omega)
    have hy := hld j (by omega)
    have e1 := st_l (x := rv l i j) hrow (show i < n by omega)
    have hr2 := get_set (o' := .row ((iL n (updI (rv l i) i (rv l i j))).map (.int .i64)) ver (min s' i) false) hrow
    have e2 := st_l (x := rv l i i) hr2 (show j < n by omega)
    have hss := hsucc (i := i) (j := j) (by omega) (by omega)
    rw [hss] at e2
    have g1 : i < n := by omega
    have g2 : j < n := by omega
    refine L_block ?_
    rw [hji]
    refine L_regT mixed [0, 2, 3] (by kernel_rfl) (fun K hK => ?_)
    simp [g1, g2, hx, hy, e1, e2]
    apply hK; clear hK K
    refine L_reg [0, 2, 3] (fun K hK => ?_)
    simp [wrap_i64 (a := (i : Int) + 1) (by omega), wrap_i64 (a := (j : Int) - 1) (by omega)]
    apply hK; clear hK K
    refine ⟨n - (i + 1), [.int .i64 (i + 1 : Nat), .int .i64 ((n : Int) - 1 - (i + 1 : Nat))], by omega, by simp; omega, i + 1, min s' (min i j), rfl, by omega, by omega, rfl, ?_⟩
    rw [hH1, List.set_set]
  · have := hend (i := i) (by omega)
    rw [this] at hH1
    exact ⟨.inl rfl, _, rfl, by rw [hH1]; exact h s'⟩
end Go.Proofs.Ytfbpgnjeafadmaa.Fl
