/- The law's bits and neighbours. -/
import Derived.Test.YtfbpgnjeafadmaaFlo7
namespace Go.Proofs.Ytfbpgnjeafadmaa.Fl
open Go Go.Proofs.Ytfbpgnjeafadmaa Go.Proofs.Ytfbpgnjeafadmaa.AX
set_option maxRecDepth 100000

theorem wrap_u32 {a : Int} (h : 0 ≤ a ∧ a < 4294967296) : IntKind.u32.wrap a = a := by
  simp [IntKind.wrap, IntKind.bits, IntKind.signed]
  omega
theorem wrapN32 {n : Nat} (h : n < 4294967296) : IntKind.u32.wrap (n : Int) = n := wrap_u32 ⟨by omega, by omega⟩
section
variable {P : Program} {t : TypeId} {l : Bool} {k' : IntKind}
theorem n_and32 (x y : Nat) (hx : x < 4294967296) (hy : y < 4294967296) : binV P .and t l (.int .u32 (x : Int)) (.int .u32 (y : Int)) = some (.int .u32 ((x &&& y : Nat) : Int)) := by
  rw [b_and]
  have h1 : (BitVec.ofInt IntKind.u32.bits (x : Int) &&& BitVec.ofInt IntKind.u32.bits (y : Int)).toNat = x &&& y := by
    show (BitVec.ofInt 32 (x : Int) &&& BitVec.ofInt 32 (y : Int)).toNat = x &&& y
    rw [ofInt_nat, ofInt_nat, BitVec.toNat_and, BitVec.toNat_ofNat, BitVec.toNat_ofNat, Nat.mod_eq_of_lt hx, Nat.mod_eq_of_lt hy]
  rw [h1, wrapN32 (Nat.and_lt_two_pow x (n := 32) hy)]
theorem n_or32 (x y : Nat) (hx : x < 4294967296) (hy : y < 4294967296) : binV P .or t l (.int .u32 (x : Int)) (.int .u32 (y : Int)) = some (.int .u32 ((x ||| y : Nat) : Int)) := by
  rw [b_or]
  have h1 : (BitVec.ofInt IntKind.u32.bits (x : Int) ||| BitVec.ofInt IntKind.u32.bits (y : Int)).toNat = x ||| y := by
    show (BitVec.ofInt 32 (x : Int) ||| BitVec.ofInt 32 (y : Int)).toNat = x ||| y
    rw [ofInt_nat, ofInt_nat, BitVec.toNat_or, BitVec.toNat_ofNat, BitVec.toNat_ofNat, Nat.mod_eq_of_lt hx, Nat.mod_eq_of_lt hy]
  rw [h1, wrapN32 (Nat.or_lt_two_pow (n := 32) hx hy)]
theorem n_shl32 (b : Nat) (hb : b < 32) : binV P .shl t l (.int .u32 1) (.int k' (b : Int)) = some (.int .u32 ((1 <<< b : Nat) : Int)) := by
  rw [b_shl (Int.natCast_nonneg b)]
  have h1 : b ≤ IntKind.u32.bits := Nat.le_of_lt hb
  have e : ((2 : Int) ^ b) = ((2 ^ b : Nat) : Int) := by simp
  rw [Int.toNat_natCast, Nat.min_eq_left h1, Int.one_mul, e, wrapN32 (Nat.lt_of_lt_of_le (Nat.pow_lt_pow_right (by decide) hb) (by decide)), Nat.shiftLeft_eq, Nat.one_mul]
theorem bit32 (s b : Nat) (hs : s < 4294967296) : binV P .and t l (.int .u32 ((s : Int) >>> b)) (.int .u32 1) = some (.int .u32 (b1 (s.testBit b) : Nat)) := by
  have h1 : s >>> b < 4294967296 := Nat.lt_of_le_of_lt (by rw [Nat.shiftRight_eq_div_pow]; exact Nat.div_le_self _ _) hs
  have := n_and32 (P := P) (t := t) (l := l) (s >>> b) 1 h1 (by decide)
  have e : ((s : Int) >>> b) = ((s >>> b : Nat) : Int) := rfl
  rw [e]
  rw [show ((1 : Nat) : Int) = 1 from rfl] at this
  rw [this, Nat.and_one_is_mod, Nat.testBit, Nat.and_comm, Nat.and_one_is_mod]
  rcases Nat.mod_two_eq_zero_or_one (s >>> b) with h | h <;> simp [h, b1]
end
def tb (m : Nat) : Nat → Bool := fun b => m.testBit b
theorem bits_ac (s : Nat) (hs : s < 4294967296) (H : AH) (Q : AV → AH → Prop) (h : ∀ v' H', OwnN H.length H' v' (num (tb s)) → Ext H H' → Q v' H') : AC Try.prog 43 [.int .u32 s] H Q := by
  refine L_body 19 Try.func43 rfl rfl ?_
  refine L_reg [0] (fun K hK => ?_)
  simp
  apply hK; clear hK K
  refine L_reg [0, 3] (fun K hK => ?_)
  simp
  apply hK; clear hK K
  refine L_reg [0, 3, 5] (fun K hK => ?_)
  simp
  apply hK; clear hK K
  refine L_block (L_loopV [3, 5] (fun q vs H' => ∃ (i : Nat) (u : AV), q = 25 - i ∧ i ≤ 25 ∧ vs = [u, .int .i64 i] ∧ Ext H H' ∧ OwnN H.length H' u (numT i (tb s))) _ [.slice none 0 0 0 1 false, .int .i64 (0 : Nat)] rfl ⟨0, _, rfl, by omega, rfl, .refl _, fun _ => rfl, OwnF.nil _ _⟩ ?_)
  rintro q _ H1 ⟨i, u, rfl, hi, rfl, hE, hN, hO⟩
  refine L_reg [0, 3, 5, 6] (fun K hK => ?_)
  simp
  apply hK; clear hK K
  refine L_dec (i < 25) (by simp; omega) (fun hlt => ?_) (fun hge => L_exit ?_)
  · refine L_block ?_
    have hsu := numT_succ i (tb s)
    have hll : (numT i (tb s)).length ≤ 25 := by
      unfold numT
      rw [List.length_map]
      exact Nat.le_trans (List.length_filter_le ..) (by simp; omega)
    refine L_reg [0, 3, 4, 5] (fun K hK => ?_)
    simp
    apply hK; clear hK K
    obtain ⟨b, hb⟩ : ∃ b, s.testBit i = b := ⟨_, rfl⟩
    have htb : tb s i = b := hb
    have h32 := bit32 (P := Try.prog) (t := 53) (l := (litOp (.tmp 10) || litOp (.const (.int .u32 1)))) s i hs
    rw [hb] at h32
    refine L_reg [0, 3, 4, 5, 12] (fun K hK => ?_)
    simp [n_shr' (k := .u32) s i (by simp [IntKind.bits]; omega), bit32 s i hs, hb]
    apply hK; clear hK K
    cases b with
    | true =>
      rw [htb, if_pos rfl] at hsu
      obtain ⟨u', H3, happ, hO3, hE3⟩ := ownF_append (P := Try.prog) hE el22 el22 (x := .int .i64 i) (m := 1) hO rfl (by simp; omega)
      refine L_true (by simp [b1]) ?_
      refine L_reg [0, 3, 5] (fun K hK => ?_)
      simp [happ]
      apply hK; clear hK K
      refine L_reg [0, 3, 5] (fun K hK => ?_)
      simp [wrap_i64 (a := (i : Int) + 1) (by omega)]
      apply hK; clear hK K
      refine ⟨25 - (i + 1), [u', .int .i64 (i + 1 : Nat)], by omega, by simp, i + 1, u', rfl, by omega, rfl, hE3, fun h0 => ?_, ?_⟩
      · rw [hsu] at h0; simp at h0
      · rw [hsu]
        simpa using hO3
    | false =>
      rw [htb, if_neg (by decide), List.append_nil] at hsu
      refine L_false (by simp [b1]) ?_
      refine L_reg [0, 3, 5] (fun K hK => ?_)
      simp [wrap_i64 (a := (i : Int) + 1) (by omega)]
      apply hK; clear hK K
      exact ⟨25 - (i + 1), [u, .int .i64 (i + 1 : Nat)], by omega, by simp, i + 1, u, rfl, by omega, rfl, hE, fun h0 => hN (by rw [← hsu]; exact h0), by rw [hsu]; exact hO⟩
  · obtain rfl : i = 25 := by omega
    rw [num_all] at hO hN
    refine L_reg [2] (fun K hK => ?_)
    simp
    apply hK; clear hK K
    exact L_ret ⟨.inr rfl, _, rfl, h _ _ ⟨hN, hO⟩ hE⟩
theorem bd111 (a b : Int) : aBuilt Try.prog 111 [(0, .int .i64 a), (1, .int .i64 b)] = some [.int .i64 a, .int .i64 b] := by kernel_rfl
theorem new111 (H : AH) (a b : Int) : storeV Try.prog 111 (H ++ [AObj.row [.int .i64 0, .int .i64 0] 0 0 false]) (.ptr H.length 0 0) (.agg [.int .i64 a, .int .i64 b]) = some (none, H ++ [AObj.row [.int .i64 a, .int .i64 b] 0 0 false]) := by
  rw [store_agg ag111 (c := [.int .i64 0, .int .i64 0]) (s := 0) (by simp) (by decide) rfl (by simp) rfl (by simp [AV.one])]
  simp
def dirs : List AV := [.int .i64 (-1), .int .i64 0, .int .i64 1, .int .i64 0, .int .i64 0, .int .i64 (-1), .int .i64 0, .int .i64 1]
def pre (q1 q2 q3 q4 : Bool) : Nat → Nat
  | 0 => 0
  | 1 => b1 q1
  | 2 => b1 q1 + b1 q2
  | 3 => b1 q1 + b1 q2 + b1 q3
  | _ => b1 q1 + b1 q2 + b1 q3 + b1 q4
theorem row112 (H : AH) : rowV Try.prog 112 4 [(0, .agg [.int .i64 (-1), .int .i64 0]), (1, .agg [.int .i64 1, .int .i64 0]), (2, .agg [.int .i64 0, .int .i64 (-1)]), (3, .agg [.int .i64 0, .int .i64 1])] H = some (some (.slice (some H.length) 0 4 0 2 false), H ++ [.row dirs 0 8 false]) := by kernel_rfl
theorem b1_le (q : Bool) : b1 q ≤ 1 := by cases q <;> decide
theorem near_q {r c n : Nat} (hs : Sd r c) (hn : r * c = n) (b : Nat) (hb : b < n) (s : Nat) (hs32 : s < 4294967296) (H : AH) (Q : AV → AH → Prop) (h : Q (.int .i64 (bes r c (tb s) b : Nat)) H) : AC Try.prog 46 [.agg [.int .i64 r, .int .i64 c], .int .u32 s, .int .i64 b] H Q := by
  refine AC.quiet (belB_int _ _ _ _) (fun Q h => ?_) Q h
  have h25 := hs.le
  have hc1 := hs.c1
  have hc5 := hs.c5
  have hr5 := hs.r5
  rw [bes_eq] at h
  rw [← hn] at hb
  have hrow : b / c < r := Nat.div_lt_of_lt_mul (by rw [Nat.mul_comm]; exact hb)
  have hcol : b % c < c := Nat.mod_lt _ hc1
  have hdm := Nat.div_add_mod b c
  have hq := quo_nat b c
  have hm := rem_nat b c
  have hc0 : c ≠ 0 := by omega
  obtain ⟨x, hx⟩ : ∃ x, b / c = x := ⟨_, rfl⟩
  obtain ⟨y, hy⟩ : ∃ y, b % c = y := ⟨_, rfl⟩
  rw [hx] at hq hrow hdm
  rw [hy] at hm hcol hdm
  rw [hx, hy] at h
  obtain ⟨q1, hq1⟩ : ∃ q, (decide (0 < x) && tb s (b - c)) = q := ⟨_, rfl⟩
  obtain ⟨q2, hq2⟩ : ∃ q, (decide (x + 1 < r) && tb s (b + c)) = q := ⟨_, rfl⟩
  obtain ⟨q3, hq3⟩ : ∃ q, (decide (0 < y) && tb s (b - 1)) = q := ⟨_, rfl⟩
  obtain ⟨q4, hq4⟩ : ∃ q, (decide (y + 1 < c) && tb s (b + 1)) = q := ⟨_, rfl⟩
  rw [hq1, hq2, hq3, hq4] at h
  have l1 := b1_le q1
  have l2 := b1_le q2
  have l3 := b1_le q3
  have l4 := b1_le q4
  have h : ∀ H', Ext H H' → Q (.int .i64 (pre q1 q2 q3 q4 4 : Nat)) H' := h
  obtain ⟨I, hI, hz⟩ := zeroT_some zt111
  refine L_body 72 Try.func46 rfl rfl ?_
  refine L_reg [1, 2, 3] (fun K hK => ?_)
  simp [AV.isU, acells]
  apply hK; clear hK K
  have d1 : (H ++ [AObj.row [.int .i64 r, .int .i64 c] 0 0 false])[H.length]? = some (.row [.int .i64 r, .int .i64 c] 0 0 false) := by simp
  have hE : Ext H (H ++ [AObj.row [.int .i64 r, .int .i64 c] 0 0 false]) := .push _ _
  have hL : (H ++ [AObj.row [.int .i64 r, .int .i64 c] 0 0 false]).length = H.length + 1 := by simp
  generalize H ++ [AObj.row [.int .i64 r, .int .i64 c] 0 0 false] = H1 at d1 hE hL ⊢
  have a0 := ld_f0 d1
  have a1 := ld_f1 d1
  have w1 : IntKind.i64.wrap (x : Int) = x := wrap_i64 (by omega)
  have wy : IntKind.i64.wrap (y : Int) = y := wrap_i64 (by omega)
  have wn : IntKind.i64.wrap (-1) = -1 := wrap_i64 (by omega)
  refine L_reg [1, 2, 3, 7] (fun K hK => ?_)
  simp
  apply hK; clear hK K
  refine L_regT mixed [1, 3, 7, 8, 9] (by kernel_rfl) (fun K hK => ?_)
  simp [a1, hq, hm, w1, hc0]
  apply hK; clear hK K
  refine L_reg [1, 3, 7, 8, 9, 26, 27, 28] (fun K hK => ?_)
  simp [bd111, row112]
  apply hK; clear hK K
  have d2 : (H1 ++ [AObj.row dirs 0 8 false])[H.length + 1]? = some (.row dirs 0 8 false) := by rw [← hL]; simp
  have hE2 : Ext H1 (H1 ++ [AObj.row dirs 0 8 false]) := .push _ _
  replace d1 := hE2.row d1
  replace hE := hE.trans hE2
  rw [hL]
  show AWL _ _ _ _ (H1 ++ [AObj.row dirs 0 8 false]) _
  clear hE2 a0 a1
  generalize H1 ++ [AObj.row dirs 0 8 false] = H2 at d1 d2 hE ⊢
  refine L_block (L_loopV [7, 28] (fun q vs H' => ∃ i : Nat, q = 4 - i ∧ i ≤ 4 ∧ vs = [.int .i64 (pre q1 q2 q3 q4 i : Nat), .int .i64 i] ∧ Ext H H' ∧ H'[H.length]? = some (.row [.int .i64 r, .int .i64 c] 0 0 false) ∧ H'[H.length + 1]? = some (.row dirs 0 8 false)) _ [.int .i64 (0 : Nat), .int .i64 (0 : Nat)] rfl ⟨0, rfl, by omega, rfl, hE, d1, d2⟩ ?_)
  clear d1 d2 hE H2
  rintro q _ H2 ⟨i, rfl, hi, rfl, hE, d1, d2⟩
  refine L_reg [1, 3, 7, 8, 9, 26, 27, 28, 29] (fun K hK => ?_)
  simp
  apply hK; clear hK K
  refine L_dec (i < 4) (by simp; omega) (fun hlt => ?_) (fun hge => L_exit ?_)
  · refine L_block ?_
    have hi4 : i = 0 ∨ i = 1 ∨ i = 2 ∨ i = 3 := by omega
    rcases hi4 with rfl | rfl | rfl | rfl
    · have e0 : ldn H2 (H.length + 1) 0 2 0 = some [.int .i64 (-1), .int .i64 (0)] := by rw [ldn_row d2]; rfl
      obtain ⟨m, hm0⟩ : ∃ m, pre q1 q2 q3 q4 0 = m := ⟨_, rfl⟩
      have hm4 : m ≤ 0 := by rw [← hm0]; simp only [pre]; omega
      have hst1 := new111 H2 (-1) (0)
      rw [hm0]
      refine L_reg [1, 3, 7, 8, 9, 11, 26, 27, 28] (fun K hK => ?_)
      simp [e0, hI, hz, hst1]
      apply hK; clear hK K
      have d3 : (H2 ++ [AObj.row [.int .i64 (-1), .int .i64 (0)] 0 0 false])[H2.length]? = some (.row [.int .i64 (-1), .int .i64 (0)] 0 0 false) := by simp
      have hE2 : Ext H2 (H2 ++ [AObj.row [.int .i64 (-1), .int .i64 (0)] 0 0 false]) := .push _ _
      replace d1 := hE2.row d1
      replace d2 := hE2.row d2
      replace hE := hE.trans hE2
      generalize H2 ++ [AObj.row [.int .i64 (-1), .int .i64 (0)] 0 0 false] = H3 at d1 d2 d3 hE ⊢
      have f0 : ld H3 H2.length 0 0 = some (.int .i64 (-1)) := by rw [ld_row d3]; rfl
      have f1 : ld H3 H2.length 1 0 = some (.int .i64 (0)) := by rw [ld_row d3]; rfl
      have a0 := ld_f0 d1
      have a1 := ld_f1 d1
      by_cases hc : 0 < x
      · rw [decide_eq_true hc, Bool.true_and] at hq1
        obtain ⟨X, eX⟩ : ∃ X : Nat, (x : Int) + (-1) = X := ⟨x - 1, by omega⟩
        have eX2 : IntKind.i64.wrap ((x : Int) + (-1)) = X := by rw [eX]; exact wrap_i64 (by omega)
        have hXr : X < r := by omega
        have hYc : y < c := by omega
        obtain ⟨M, hM⟩ : ∃ M : Nat, X * c = M := ⟨_, rfl⟩
        have eM : (X : Int) * c = M := by rw [← hM]; simp
        have hMn : M + c ≤ r * c := by
          have : (X + 1) * c ≤ r * c := Nat.mul_le_mul_right c (by omega)
          rw [Nat.add_mul, Nat.one_mul, hM] at this; exact this
        have eM2 : IntKind.i64.wrap (M : Int) = M := wrap_i64 (by omega)
        obtain ⟨Z, hZ⟩ : ∃ Z : Nat, (M : Int) + y = Z := ⟨M + y, by omega⟩
        have eZ2 : IntKind.i64.wrap (Z : Int) = Z := wrap_i64 (by omega)
        have hZi : Z = b - c := by
          have e1 : x = X + 1 := by omega
          have e2 : c * x = x * c := Nat.mul_comm ..
          rw [e1] at hdm e2
          rw [Nat.mul_add, Nat.mul_one] at hdm
          have e3 : c * X = X * c := Nat.mul_comm ..
          omega
        have hZb : s.testBit Z = q1 := by rw [hZi]; exact hq1
        have hZ32 : Z ≤ IntKind.u32.bits := by simp [IntKind.bits]; omega
        have h32 : ∀ tt ll, binV Try.prog .and tt ll (.int .u32 ((s : Int) >>> Z)) (.int .u32 1) = some (.int .u32 (b1 q1 : Nat)) := fun tt ll => by rw [bit32 s Z hs32, hZb]
        have wb : IntKind.i64.wrap ((b1 q1 : Nat) : Int) = (b1 q1 : Nat) := wrap_i64 (by omega)
        have wa : IntKind.i64.wrap ((m : Int) + (b1 q1 : Nat)) = ((m + b1 q1 : Nat) : Int) := by rw [wrap_i64 (by omega)]; omega
        refine L_regT mixed [1, 3, 7, 8, 9, 12, 13, 26, 27, 28] (by kernel_rfl) (fun K hK => ?_)
        simp [f0, f1, eX2, wy]
        apply hK; clear hK K
        refine L_reg [1, 3, 7, 8, 9, 12, 13, 26, 27, 28, 57] (fun K hK => ?_)
        simp [hXr, hYc, a0, a1, pickV]
        apply hK; clear hK K
        refine L_true (by simp) ?_
        refine L_reg [1, 3, 7, 8, 9, 26, 27, 28] (fun K hK => ?_)
        simp [a1, eM, eM2, hZ, eZ2, n_shr' (k := .u32) s Z hZ32, h32, wb, wa]
        apply hK; clear hK K
        refine L_reg [1, 3, 7, 8, 9, 26, 27, 28] (fun K hK => ?_)
        simp
        apply hK; clear hK K
        refine ⟨4 - 1, [.int .i64 (pre q1 q2 q3 q4 1 : Nat), .int .i64 (1 : Nat)], by omega, ?_, 1, rfl, by omega, rfl, hE, d1, d2⟩
        rw [show pre q1 q2 q3 q4 1 = pre q1 q2 q3 q4 0 + b1 q1 by simp [pre], hm0]
        rfl
      · rw [decide_eq_false hc, Bool.false_and] at hq1
        have e9 : pre q1 q2 q3 q4 1 = pre q1 q2 q3 q4 0 := by rw [← hq1]; simp [pre, b1]
        have hx0 : x = 0 := by omega
        subst hx0
        have eX2 : IntKind.i64.wrap (((0 : Nat) : Int) + (-1)) = -1 := by rw [wrap_i64 (by omega)]; omega
        refine L_regT mixed [1, 3, 7, 8, 9, 12, 13, 26, 27, 28] (by kernel_rfl) (fun K hK => ?_)
        simp [f0, f1, wy, wn]
        apply hK; clear hK K
        refine L_reg [1, 3, 7, 8, 9, 12, 13, 26, 27, 28, 57] (fun K hK => ?_)
        simp [pickV]
        apply hK; clear hK K
        refine L_false (by simp) ?_
        refine L_reg [1, 3, 7, 8, 9, 26, 27, 28] (fun K hK => ?_)
        simp
        apply hK; clear hK K
        exact ⟨4 - 1, [.int .i64 (pre q1 q2 q3 q4 1 : Nat), .int .i64 (1 : Nat)], by omega, by rw [e9, hm0]; rfl, 1, rfl, by omega, rfl, hE, d1, d2⟩
    · have e0 : ldn H2 (H.length + 1) 0 2 2 = some [.int .i64 (1), .int .i64 (0)] := by rw [ldn_row d2]; rfl
      obtain ⟨m, hm0⟩ : ∃ m, pre q1 q2 q3 q4 1 = m := ⟨_, rfl⟩
      have hm4 : m ≤ 1 := by rw [← hm0]; simp only [pre]; omega
      have hst1 := new111 H2 (1) (0)
      rw [hm0]
      refine L_reg [1, 3, 7, 8, 9, 11, 26, 27, 28] (fun K hK => ?_)
      simp [e0, hI, hz, hst1]
      apply hK; clear hK K
      have d3 : (H2 ++ [AObj.row [.int .i64 (1), .int .i64 (0)] 0 0 false])[H2.length]? = some (.row [.int .i64 (1), .int .i64 (0)] 0 0 false) := by simp
      have hE2 : Ext H2 (H2 ++ [AObj.row [.int .i64 (1), .int .i64 (0)] 0 0 false]) := .push _ _
      replace d1 := hE2.row d1
      replace d2 := hE2.row d2
      replace hE := hE.trans hE2
      generalize H2 ++ [AObj.row [.int .i64 (1), .int .i64 (0)] 0 0 false] = H3 at d1 d2 d3 hE ⊢
      have f0 : ld H3 H2.length 0 0 = some (.int .i64 (1)) := by rw [ld_row d3]; rfl
      have f1 : ld H3 H2.length 1 0 = some (.int .i64 (0)) := by rw [ld_row d3]; rfl
      have a0 := ld_f0 d1
      have a1 := ld_f1 d1
      by_cases hc : x + 1 < r
      · rw [decide_eq_true hc, Bool.true_and] at hq2
        obtain ⟨X, eX⟩ : ∃ X : Nat, (x : Int) + (1) = X := ⟨x + 1, by omega⟩
        have eX2 : IntKind.i64.wrap ((x : Int) + (1)) = X := by rw [eX]; exact wrap_i64 (by omega)
        have hXr : X < r := by omega
        have hYc : y < c := by omega
        obtain ⟨M, hM⟩ : ∃ M : Nat, X * c = M := ⟨_, rfl⟩
        have eM : (X : Int) * c = M := by rw [← hM]; simp
        have hMn : M + c ≤ r * c := by
          have : (X + 1) * c ≤ r * c := Nat.mul_le_mul_right c (by omega)
          rw [Nat.add_mul, Nat.one_mul, hM] at this; exact this
        have eM2 : IntKind.i64.wrap (M : Int) = M := wrap_i64 (by omega)
        obtain ⟨Z, hZ⟩ : ∃ Z : Nat, (M : Int) + y = Z := ⟨M + y, by omega⟩
        have eZ2 : IntKind.i64.wrap (Z : Int) = Z := wrap_i64 (by omega)
        have hZi : Z = b + c := by
          have e1 : X = x + 1 := by omega
          have e2 : c * x = x * c := Nat.mul_comm ..
          rw [e1] at hM
          rw [Nat.add_mul, Nat.one_mul] at hM
          skip
          omega
        have hZb : s.testBit Z = q2 := by rw [hZi]; exact hq2
        have hZ32 : Z ≤ IntKind.u32.bits := by simp [IntKind.bits]; omega
        have h32 : ∀ tt ll, binV Try.prog .and tt ll (.int .u32 ((s : Int) >>> Z)) (.int .u32 1) = some (.int .u32 (b1 q2 : Nat)) := fun tt ll => by rw [bit32 s Z hs32, hZb]
        have wb : IntKind.i64.wrap ((b1 q2 : Nat) : Int) = (b1 q2 : Nat) := wrap_i64 (by omega)
        have wa : IntKind.i64.wrap ((m : Int) + (b1 q2 : Nat)) = ((m + b1 q2 : Nat) : Int) := by rw [wrap_i64 (by omega)]; omega
        refine L_regT mixed [1, 3, 7, 8, 9, 12, 13, 26, 27, 28] (by kernel_rfl) (fun K hK => ?_)
        simp [f0, f1, eX2, wy]
        apply hK; clear hK K
        refine L_reg [1, 3, 7, 8, 9, 12, 13, 26, 27, 28, 57] (fun K hK => ?_)
        simp [hXr, hYc, a0, a1, pickV]
        apply hK; clear hK K
        refine L_true (by simp) ?_
        refine L_reg [1, 3, 7, 8, 9, 26, 27, 28] (fun K hK => ?_)
        simp [a1, eM, eM2, hZ, eZ2, n_shr' (k := .u32) s Z hZ32, h32, wb, wa]
        apply hK; clear hK K
        refine L_reg [1, 3, 7, 8, 9, 26, 27, 28] (fun K hK => ?_)
        simp
        apply hK; clear hK K
        refine ⟨4 - 2, [.int .i64 (pre q1 q2 q3 q4 2 : Nat), .int .i64 (2 : Nat)], by omega, ?_, 2, rfl, by omega, rfl, hE, d1, d2⟩
        rw [show pre q1 q2 q3 q4 2 = pre q1 q2 q3 q4 1 + b1 q2 by simp [pre], hm0]
        rfl
      · rw [decide_eq_false hc, Bool.false_and] at hq2
        have e9 : pre q1 q2 q3 q4 2 = pre q1 q2 q3 q4 1 := by rw [← hq2]; simp [pre, b1]
        obtain ⟨X9, hX9⟩ : ∃ X9, x + 1 = X9 := ⟨_, rfl⟩
        rw [hX9] at hc
        have eX2 : IntKind.i64.wrap ((x : Int) + (1)) = (X9 : Int) := by rw [wrap_i64 (by omega)]; omega
        refine L_regT mixed [1, 3, 7, 8, 9, 12, 13, 26, 27, 28] (by kernel_rfl) (fun K hK => ?_)
        simp [f0, f1, eX2, wy]
        apply hK; clear hK K
        refine L_reg [1, 3, 7, 8, 9, 12, 13, 26, 27, 28, 57] (fun K hK => ?_)
        simp [hc, a0, pickV]
        apply hK; clear hK K
        refine L_false (by simp) ?_
        refine L_reg [1, 3, 7, 8, 9, 26, 27, 28] (fun K hK => ?_)
        simp
        apply hK; clear hK K
        exact ⟨4 - 2, [.int .i64 (pre q1 q2 q3 q4 2 : Nat), .int .i64 (2 : Nat)], by omega, by rw [e9, hm0]; rfl, 2, rfl, by omega, rfl, hE, d1, d2⟩
    · have e0 : ldn H2 (H.length + 1) 0 2 4 = some [.int .i64 (0), .int .i64 (-1)] := by rw [ldn_row d2]; rfl
      obtain ⟨m, hm0⟩ : ∃ m, pre q1 q2 q3 q4 2 = m := ⟨_, rfl⟩
      have hm4 : m ≤ 2 := by rw [← hm0]; simp only [pre]; omega
      have hst1 := new111 H2 (0) (-1)
      rw [hm0]
      refine L_reg [1, 3, 7, 8, 9, 11, 26, 27, 28] (fun K hK => ?_)
      simp [e0, hI, hz, hst1]
      apply hK; clear hK K
      have d3 : (H2 ++ [AObj.row [.int .i64 (0), .int .i64 (-1)] 0 0 false])[H2.length]? = some (.row [.int .i64 (0), .int .i64 (-1)] 0 0 false) := by simp
      have hE2 : Ext H2 (H2 ++ [AObj.row [.int .i64 (0), .int .i64 (-1)] 0 0 false]) := .push _ _
      replace d1 := hE2.row d1
      replace d2 := hE2.row d2
      replace hE := hE.trans hE2
      generalize H2 ++ [AObj.row [.int .i64 (0), .int .i64 (-1)] 0 0 false] = H3 at d1 d2 d3 hE ⊢
      have f0 : ld H3 H2.length 0 0 = some (.int .i64 (0)) := by rw [ld_row d3]; rfl
      have f1 : ld H3 H2.length 1 0 = some (.int .i64 (-1)) := by rw [ld_row d3]; rfl
      have a0 := ld_f0 d1
      have a1 := ld_f1 d1
      by_cases hc : 0 < y
      · rw [decide_eq_true hc, Bool.true_and] at hq3
        obtain ⟨Y, eY⟩ : ∃ Y : Nat, (y : Int) + (-1) = Y := ⟨y - 1, by omega⟩
        have eY2 : IntKind.i64.wrap ((y : Int) + (-1)) = Y := by rw [eY]; exact wrap_i64 (by omega)
        have hXr : x < r := by omega
        have hYc : Y < c := by omega
        obtain ⟨M, hM⟩ : ∃ M : Nat, x * c = M := ⟨_, rfl⟩
        have eM : (x : Int) * c = M := by rw [← hM]; simp
        have hMn : M + c ≤ r * c := by
          have : (x + 1) * c ≤ r * c := Nat.mul_le_mul_right c (by omega)
          rw [Nat.add_mul, Nat.one_mul, hM] at this; exact this
        have eM2 : IntKind.i64.wrap (M : Int) = M := wrap_i64 (by omega)
        obtain ⟨Z, hZ⟩ : ∃ Z : Nat, (M : Int) + Y = Z := ⟨M + Y, by omega⟩
        have eZ2 : IntKind.i64.wrap (Z : Int) = Z := wrap_i64 (by omega)
        have hZi : Z = b - 1 := by
          have e2 : c * x = x * c := Nat.mul_comm ..
          skip
          skip
          omega
        have hZb : s.testBit Z = q3 := by rw [hZi]; exact hq3
        have hZ32 : Z ≤ IntKind.u32.bits := by simp [IntKind.bits]; omega
        have h32 : ∀ tt ll, binV Try.prog .and tt ll (.int .u32 ((s : Int) >>> Z)) (.int .u32 1) = some (.int .u32 (b1 q3 : Nat)) := fun tt ll => by rw [bit32 s Z hs32, hZb]
        have wb : IntKind.i64.wrap ((b1 q3 : Nat) : Int) = (b1 q3 : Nat) := wrap_i64 (by omega)
        have wa : IntKind.i64.wrap ((m : Int) + (b1 q3 : Nat)) = ((m + b1 q3 : Nat) : Int) := by rw [wrap_i64 (by omega)]; omega
        refine L_regT mixed [1, 3, 7, 8, 9, 12, 13, 26, 27, 28] (by kernel_rfl) (fun K hK => ?_)
        simp [f0, f1, eY2, w1]
        apply hK; clear hK K
        refine L_reg [1, 3, 7, 8, 9, 12, 13, 26, 27, 28, 57] (fun K hK => ?_)
        simp [hXr, hYc, a0, a1, pickV]
        apply hK; clear hK K
        refine L_true (by simp) ?_
        refine L_reg [1, 3, 7, 8, 9, 26, 27, 28] (fun K hK => ?_)
        simp [a1, eM, eM2, hZ, eZ2, n_shr' (k := .u32) s Z hZ32, h32, wb, wa]
        apply hK; clear hK K
        refine L_reg [1, 3, 7, 8, 9, 26, 27, 28] (fun K hK => ?_)
        simp
        apply hK; clear hK K
        refine ⟨4 - 3, [.int .i64 (pre q1 q2 q3 q4 3 : Nat), .int .i64 (3 : Nat)], by omega, ?_, 3, rfl, by omega, rfl, hE, d1, d2⟩
        rw [show pre q1 q2 q3 q4 3 = pre q1 q2 q3 q4 2 + b1 q3 by simp [pre], hm0]
        rfl
      · rw [decide_eq_false hc, Bool.false_and] at hq3
        have e9 : pre q1 q2 q3 q4 3 = pre q1 q2 q3 q4 2 := by rw [← hq3]; simp [pre, b1]
        have hy0 : y = 0 := by omega
        subst hy0
        have eY2 : IntKind.i64.wrap (((0 : Nat) : Int) + (-1)) = -1 := by rw [wrap_i64 (by omega)]; omega
        refine L_regT mixed [1, 3, 7, 8, 9, 12, 13, 26, 27, 28] (by kernel_rfl) (fun K hK => ?_)
        simp [f0, f1, w1, wn]
        apply hK; clear hK K
        refine L_reg [1, 3, 7, 8, 9, 12, 13, 26, 27, 28, 57] (fun K hK => ?_)
        simp [hrow, a0, pickV]
        apply hK; clear hK K
        refine L_false (by simp) ?_
        refine L_reg [1, 3, 7, 8, 9, 26, 27, 28] (fun K hK => ?_)
        simp
        apply hK; clear hK K
        exact ⟨4 - 3, [.int .i64 (pre q1 q2 q3 q4 3 : Nat), .int .i64 (3 : Nat)], by omega, by rw [e9, hm0]; rfl, 3, rfl, by omega, rfl, hE, d1, d2⟩
    · have e0 : ldn H2 (H.length + 1) 0 2 6 = some [.int .i64 (0), .int .i64 (1)] := by rw [ldn_row d2]; rfl
      obtain ⟨m, hm0⟩ : ∃ m, pre q1 q2 q3 q4 3 = m := ⟨_, rfl⟩
      have hm4 : m ≤ 3 := by rw [← hm0]; simp only [pre]; omega
      have hst1 := new111 H2 (0) (1)
      rw [hm0]
      refine L_reg [1, 3, 7, 8, 9, 11, 26, 27, 28] (fun K hK => ?_)
      simp [e0, hI, hz, hst1]
      apply hK; clear hK K
      have d3 : (H2 ++ [AObj.row [.int .i64 (0), .int .i64 (1)] 0 0 false])[H2.length]? = some (.row [.int .i64 (0), .int .i64 (1)] 0 0 false) := by simp
      have hE2 : Ext H2 (H2 ++ [AObj.row [.int .i64 (0), .int .i64 (1)] 0 0 false]) := .push _ _
      replace d1 := hE2.row d1
      replace d2 := hE2.row d2
      replace hE := hE.trans hE2
      generalize H2 ++ [AObj.row [.int .i64 (0), .int .i64 (1)] 0 0 false] = H3 at d1 d2 d3 hE ⊢
      have f0 : ld H3 H2.length 0 0 = some (.int .i64 (0)) := by rw [ld_row d3]; rfl
      have f1 : ld H3 H2.length 1 0 = some (.int .i64 (1)) := by rw [ld_row d3]; rfl
      have a0 := ld_f0 d1
      have a1 := ld_f1 d1
      by_cases hc : y + 1 < c
      · rw [decide_eq_true hc, Bool.true_and] at hq4
        obtain ⟨Y, eY⟩ : ∃ Y : Nat, (y : Int) + (1) = Y := ⟨y + 1, by omega⟩
        have eY2 : IntKind.i64.wrap ((y : Int) + (1)) = Y := by rw [eY]; exact wrap_i64 (by omega)
        have hXr : x < r := by omega
        have hYc : Y < c := by omega
        obtain ⟨M, hM⟩ : ∃ M : Nat, x * c = M := ⟨_, rfl⟩
        have eM : (x : Int) * c = M := by rw [← hM]; simp
        have hMn : M + c ≤ r * c := by
          have : (x + 1) * c ≤ r * c := Nat.mul_le_mul_right c (by omega)
          rw [Nat.add_mul, Nat.one_mul, hM] at this; exact this
        have eM2 : IntKind.i64.wrap (M : Int) = M := wrap_i64 (by omega)
        obtain ⟨Z, hZ⟩ : ∃ Z : Nat, (M : Int) + Y = Z := ⟨M + Y, by omega⟩
        have eZ2 : IntKind.i64.wrap (Z : Int) = Z := wrap_i64 (by omega)
        have hZi : Z = b + 1 := by
          have e2 : c * x = x * c := Nat.mul_comm ..
          skip
          skip
          omega
        have hZb : s.testBit Z = q4 := by rw [hZi]; exact hq4
        have hZ32 : Z ≤ IntKind.u32.bits := by simp [IntKind.bits]; omega
        have h32 : ∀ tt ll, binV Try.prog .and tt ll (.int .u32 ((s : Int) >>> Z)) (.int .u32 1) = some (.int .u32 (b1 q4 : Nat)) := fun tt ll => by rw [bit32 s Z hs32, hZb]
        have wb : IntKind.i64.wrap ((b1 q4 : Nat) : Int) = (b1 q4 : Nat) := wrap_i64 (by omega)
        have wa : IntKind.i64.wrap ((m : Int) + (b1 q4 : Nat)) = ((m + b1 q4 : Nat) : Int) := by rw [wrap_i64 (by omega)]; omega
        refine L_regT mixed [1, 3, 7, 8, 9, 12, 13, 26, 27, 28] (by kernel_rfl) (fun K hK => ?_)
        simp [f0, f1, eY2, w1]
        apply hK; clear hK K
        refine L_reg [1, 3, 7, 8, 9, 12, 13, 26, 27, 28, 57] (fun K hK => ?_)
        simp [hXr, hYc, a0, a1, pickV]
        apply hK; clear hK K
        refine L_true (by simp) ?_
        refine L_reg [1, 3, 7, 8, 9, 26, 27, 28] (fun K hK => ?_)
        simp [a1, eM, eM2, hZ, eZ2, n_shr' (k := .u32) s Z hZ32, h32, wb, wa]
        apply hK; clear hK K
        refine L_reg [1, 3, 7, 8, 9, 26, 27, 28] (fun K hK => ?_)
        simp
        apply hK; clear hK K
        refine ⟨4 - 4, [.int .i64 (pre q1 q2 q3 q4 4 : Nat), .int .i64 (4 : Nat)], by omega, ?_, 4, rfl, by omega, rfl, hE, d1, d2⟩
        rw [show pre q1 q2 q3 q4 4 = pre q1 q2 q3 q4 3 + b1 q4 by simp [pre], hm0]
        rfl
      · rw [decide_eq_false hc, Bool.false_and] at hq4
        have e9 : pre q1 q2 q3 q4 4 = pre q1 q2 q3 q4 3 := by rw [← hq4]; simp [pre, b1]
        obtain ⟨X9, hX9⟩ : ∃ X9, y + 1 = X9 := ⟨_, rfl⟩
        rw [hX9] at hc
        have eY2 : IntKind.i64.wrap ((y : Int) + (1)) = (X9 : Int) := by rw [wrap_i64 (by omega)]; omega
        refine L_regT mixed [1, 3, 7, 8, 9, 12, 13, 26, 27, 28] (by kernel_rfl) (fun K hK => ?_)
        simp [f0, f1, eY2, w1]
        apply hK; clear hK K
        refine L_reg [1, 3, 7, 8, 9, 12, 13, 26, 27, 28, 57] (fun K hK => ?_)
        simp [hc, hrow, a0, a1, pickV]
        apply hK; clear hK K
        refine L_false (by simp) ?_
        refine L_reg [1, 3, 7, 8, 9, 26, 27, 28] (fun K hK => ?_)
        simp
        apply hK; clear hK K
        exact ⟨4 - 4, [.int .i64 (pre q1 q2 q3 q4 4 : Nat), .int .i64 (4 : Nat)], by omega, by rw [e9, hm0]; rfl, 4, rfl, by omega, rfl, hE, d1, d2⟩
  · have e : i = 4 := by omega
    subst e
    refine L_reg [6] (fun K hK => ?_)
    simp
    apply hK; clear hK K
    exact L_ret ⟨.inr rfl, _, rfl, h _ hE⟩
end Go.Proofs.Ytfbpgnjeafadmaa.Fl
