/- Dock and its reference: ways are counted; the law of turns. -/
import Derived.Test.YtojblooaiojmcaaTurns2
import Derived.Test.YtojblooaiojmcaaMath1
namespace Go.Proofs.Ytojblooaiojmcaa
open Go Go.Proofs.Ytojblooaiojmcaa.AX

def rowB (s : Nat) : Nat → Nat
  | 0 => 0
  | c + 1 => if s.testBit c then rowB s c + 1 else 0
theorem rowB_spec (s : Nat) : ∀ b, rowB s b ≤ b ∧ (∀ c, b - rowB s b ≤ c → c < b → s.testBit c = true) ∧ (b - rowB s b = 0 ∨ s.testBit (b - rowB s b - 1) = false)
  | 0 => by simp [rowB]
  | c + 1 => by
    obtain ⟨h1, h2, h3⟩ := rowB_spec s c
    rw [rowB]
    cases ht : s.testBit c with
    | true =>
      simp only [if_true]
      have e : c + 1 - (rowB s c + 1) = c - rowB s c := by omega
      rw [e]
      refine ⟨by omega, fun d hd1 hd2 => ?_, h3⟩
      rcases Nat.lt_or_ge d c with h | h
      · exact h2 d hd1 h
      · have : d = c := by omega
        rw [this]; exact ht
    | false =>
      simp only [Bool.false_eq_true, if_false]
      exact ⟨by omega, fun d hd1 hd2 => by omega, .inr (by simpa using ht)⟩

theorem range_count (a b : Nat) : ∀ n, (List.range n).countP (fun w => decide (a ≤ w ∧ w ≤ b)) = min n (b + 1) - min n a
  | 0 => by simp
  | n + 1 => by
    rw [List.range_succ, List.countP_append, range_count a b n]
    rw [List.countP_cons, List.countP_nil]
    by_cases h : a ≤ n ∧ n ≤ b
    · rw [if_pos (decide_eq_true h)]; omega
    · rw [if_neg (by simpa using h)]; omega

theorem count_nr {n s b : Nat} {out : List Int} (h : SameB s out) (hb : b < n) (hf : s.testBit b = false) : (List.range n).countP (fun w => decide (nr out (n - w) w = (b : Int))) = 1 + rowB s b := by
  obtain ⟨h1, h2, h3⟩ := rowB_spec s b
  have : (List.range n).countP (fun w => decide (nr out (n - w) w = (b : Int))) = (List.range n).countP (fun w => decide (b - rowB s b ≤ w ∧ w ≤ b)) := by
    apply List.countP_congr
    intro w hw
    have hwn : w < n := List.mem_range.1 hw
    rw [nr_ff' h hwn]
    obtain ⟨f1, f2, f3, f4⟩ := ff_spec s (n - w) w
    rw [show w + (n - w) = n by omega] at f2 f4
    generalize ff s (n - w) w = f at *
    simp only [decide_eq_true_eq]
    constructor
    · intro he
      have hfb : f = b := by
        split at he <;> omega
      subst hfb
      refine ⟨?_, f1⟩
      rcases Nat.lt_or_ge w (f - rowB s f) with h5 | h5
      · have := f3 (f - rowB s f - 1) (by omega) (by omega)
        rcases h3 with h0 | h0
        · omega
        · rw [this] at h0; cases h0
      · exact h5
    · rintro ⟨g1, g2⟩
      have hfb : f = b := by
        rcases Nat.lt_trichotomy f b with h5 | h5 | h5
        · have e1 := f4 (by omega)
          have e2 := h2 f (by omega) h5
          rw [e1] at e2; cases e2
        · exact h5
        · have e1 := f3 b g2 h5
          rw [hf] at e1; cases e1
      rw [hfb, if_pos hb]
  rw [this, range_count]
  omega

theorem rowBefore_ac (s b : Nat) (H : AH) (Q : AV → AH → Prop) (hs : s < 2 ^ 64) (hb : b < 64) (h : Q (.int .i64 (rowB s b)) H) : AC Try.prog 76 [.int .u64 s, .int .i64 b] H Q := by
  refine L_body 21 Try.func76 rfl rfl ?_
  refine L_reg [0, 1] (fun K hK => ?_)
  simp
  apply hK; clear hK K
  refine L_reg [0, 1, 5] (fun K hK => ?_)
  simp
  apply hK; clear hK K
  refine L_reg [0, 5, 6] (fun K hK => ?_)
  simp [wrap_i64 (a := (b : Int) - 1) (by omega)]
  apply hK; clear hK K
  refine L_block (L_loopV [5, 6] (fun k vs H' => ∃ c r : Nat, k = c ∧ c ≤ b ∧ r + c = b ∧ r + rowB s c = rowB s b ∧ vs = [.int .i64 r, .int .i64 ((c : Int) - 1)] ∧ H = H') _ [.int .i64 (0 : Nat), .int .i64 ((b : Int) - 1)] rfl ⟨b, 0, rfl, by omega, by omega, by omega, rfl, rfl⟩ ?_)
  rintro k _ _ ⟨c, r, rfl, hc, hr, hrow, rfl, rfl⟩
  cases k with
  | zero =>
    refine L_reg [0, 5, 6, 15] (fun K hK => ?_)
    simp [pickV]
    apply hK; clear hK K
    refine L_false (by simp) (L_exit ?_)
    refine L_reg [4] (fun K hK => ?_)
    simp
    apply hK; clear hK K
    have : (r : Int) = rowB s b := by rw [← hrow]; simp [rowB]
    rw [← this] at h
    exact L_ret ⟨.inr rfl, _, rfl, h⟩
  | succ c =>
    rw [rowB] at hrow
    refine L_reg [0, 5, 6, 15] (fun K hK => ?_)
    have e : ((c + 1 : Nat) : Int) - 1 = c := by omega
    simp only [e]
    simp [okFn_low]
    refine has_ac s c _ _ hs (by omega) ?_
    simp [pickV]
    apply hK; clear hK K
    refine L_split rfl (fun ht => ?_) (fun ht => L_exit ?_)
    · rw [if_pos ht] at hrow
      refine L_block ?_
      refine L_reg [0, 5, 6] (fun K hK => ?_)
      simp [wrap_i64 (a := (r : Int) + 1) (by omega)]
      apply hK; clear hK K
      refine L_reg [0, 5, 6] (fun K hK => ?_)
      simp [wrap_i64 (a := (c : Int) - 1) (by omega)]
      apply hK; clear hK K
      exact ⟨c, [.int .i64 (r + 1 : Nat), .int .i64 ((c : Int) - 1)], by omega, by simp, c, r + 1, rfl, by omega, by omega, by omega, rfl, rfl⟩
    · rw [if_neg (by rw [ht]; simp)] at hrow
      refine L_reg [4] (fun K hK => ?_)
      simp
      apply hK; clear hK K
      have : (r : Int) = rowB s b := by rw [← hrow]; simp
      rw [← this] at h
      exact L_ret ⟨.inr rfl, _, rfl, h⟩

def okD (n : Nat) : Nat → List Nat → Prop
  | _, [] => True
  | s, b :: l => b < n ∧ s.testBit b = false ∧ okD n (s ||| 2 ^ b) l
def waysL : Nat → List Nat → Nat
  | _, [] => 1
  | s, b :: l => (1 + rowB s b) * waysL (s ||| 2 ^ b) l
def waysE (n : Int) (l : List Int) : Int := if okBays n ≠ 0 then 1 else if n < l.length then 3 else (diffS n.toNat 0 l).2
def waysS (n : Int) (l : List Int) : Int := if waysE n l ≠ 0 then 0 else waysL 0 (natL l)
theorem diffS_okD (n : Nat) : ∀ (l : List Int) (s : Nat), (diffS n s l).2 = 0 → ∃ l' : List Nat, l = l'.map Int.ofNat ∧ okD n s l'
  | [], s, _ => ⟨[], rfl, trivial⟩
  | b :: l, s, h => by
    rw [diffS] at h
    split at h
    · simp at h
    · rename_i hb
      split at h
      · simp at h
      · rename_i ht
        obtain ⟨l', rfl, hok⟩ := diffS_okD n l _ h
        refine ⟨b.toNat :: l', ?_, by omega, by simpa using ht, hok⟩
        simp only [List.map_cons, List.cons.injEq, and_true, Int.ofNat_eq_natCast]
        omega

theorem mulNat (a r : Nat) : (a : Int) * (1 + (r : Int)) = ((a * (1 + r) : Nat) : Int) := by simp
theorem pow8 {i : Nat} (h : i ≤ 8) : 8 ^ i ≤ 16777216 := Nat.le_trans (Nat.pow_le_pow_right (by decide) h) (by decide)

theorem Ways_ac (n : Int) (v : AV) (l : List Int) (H : AH) (Q : AV → AH → Prop) (hl : l.length ≤ 1048576) (hv : Ls H v l) (h : Q (.tuple [.int .i64 (waysS n l), .int .i64 (waysE n l)]) H) : AC Try.prog 41 [.int .i64 n, v] H Q := by
  have hv0 := hv
  obtain ⟨r, off, ver, sz, full, rfl, hv⟩ := hv
  refine L_body 48 Try.func41 rfl rfl ?_
  refine L_reg [0, 1] (fun K hK => ?_)
  simp
  apply hK; clear hK K
  refine L_reg [0, 1, 6] (fun K hK => ?_)
  simp [okFn_low]
  refine checkBays_ac _ _ _ ?_
  simp
  apply hK; clear hK K
  refine L_reg [0, 1, 6, 16] (fun K hK => ?_)
  simp
  apply hK; clear hK K
  rcases okBays_cases n with ⟨h0, hn1, hn8⟩ | ⟨h0, hn⟩
  case inr =>
    refine L_true (by simp [h0]) ?_
    refine L_reg [4, 5] (fun K hK => ?_)
    simp
    apply hK; clear hK K
    have e : waysE n l = 1 := by rw [waysE, if_pos (by omega)]
    rw [waysS, e, if_pos (by decide)] at h
    rw [h0]
    exact L_ret ⟨.inr rfl, _, rfl, h⟩
  refine L_false (by simp [h0]) ?_
  obtain ⟨m, rfl⟩ := Int.eq_ofNat_of_zero_le (show 0 ≤ n by omega)
  have hm : m ≤ 8 := by omega
  refine L_reg [0, 1, 21] (fun K hK => ?_)
  simp
  apply hK; clear hK K
  by_cases hlen : m < l.length
  case pos =>
    refine L_true (by simp; omega) ?_
    refine L_reg [4, 5] (fun K hK => ?_)
    simp
    apply hK; clear hK K
    have e : waysE m l = 3 := by rw [waysE, if_neg (by omega), if_pos (by omega)]
    rw [waysS, e, if_pos (by decide)] at h
    exact L_ret ⟨.inr rfl, _, rfl, h⟩
  refine L_false (by simp; omega) ?_
  have hE0 : waysE m l = (diffS m 0 l).2 := by rw [waysE, if_neg (by omega), if_neg (by omega)]; rfl
  refine L_reg [1, 8] (fun K hK => ?_)
  simp [okFn_low]
  refine different_ac m _ l _ _ hm hl hv0 ?_
  simp
  apply hK; clear hK K
  refine L_reg [1, 8, 29] (fun K hK => ?_)
  simp
  apply hK; clear hK K
  by_cases he : (diffS m 0 l).2 = 0
  case neg =>
    refine L_true (by simp [he]) ?_
    refine L_reg [4, 5] (fun K hK => ?_)
    simp
    apply hK; clear hK K
    rw [waysS, hE0, if_pos he] at h
    exact L_ret ⟨.inr rfl, _, rfl, h⟩
  refine L_false (by simp [he]) ?_
  obtain ⟨l', rfl, hok⟩ := diffS_okD m l 0 he
  rw [he] at hE0
  rw [waysS, hE0, if_neg (by decide), natL_of] at h
  simp only [List.length_map] at *
  refine L_reg [1, 9] (fun K hK => ?_)
  simp
  apply hK; clear hK K
  refine L_reg [1, 9, 10] (fun K hK => ?_)
  simp
  apply hK; clear hK K
  refine L_reg [9, 10, 31, 32, 33] (fun K hK => ?_)
  simp
  apply hK; clear hK K
  refine L_block (L_loopV [9, 10, 33] (fun k vs H' => ∃ (i s a : Nat), k = l'.length - i ∧ i ≤ l'.length ∧ s < 2 ^ 64 ∧ a ≤ 8 ^ i ∧ okD m s (l'.drop i) ∧ a * waysL s (l'.drop i) = waysL 0 l' ∧ vs = [.int .i64 a, .int .u64 s, .int .i64 i] ∧ H = H') _ [.int .i64 (1 : Nat), .int .u64 (0 : Nat), .int .i64 (0 : Nat)] rfl ⟨0, 0, 1, rfl, by omega, by decide, by decide, hok, by simp, rfl, rfl⟩ ?_)
  rintro k _ _ ⟨i, s, a, rfl, hi, hs, ha, hd, hp, rfl, rfl⟩
  refine L_reg [9, 10, 31, 32, 33, 34] (fun K hK => ?_)
  simp
  apply hK; clear hK K
  refine L_dec (i < l'.length) (by simp) (fun hlt => ?_) (fun hge => L_exit ?_)
  · obtain ⟨r', rfl, rfl, hld⟩ := hv i hlt
    simp only [List.getElem_map] at hld
    rw [List.drop_eq_getElem_cons hlt] at hd hp
    rw [waysL] at hp
    obtain ⟨hb, hf, hd⟩ := hd
    generalize l'[i] = b at hld hb hf hd hp
    have hrb := (rowB_spec s b).1
    have ha2 : a * (1 + rowB s b) ≤ 8 ^ (i + 1) := by
      rw [Nat.pow_succ]; exact Nat.mul_le_mul ha (by omega)
    have ha3 := Nat.le_trans ha2 (pow8 (show i + 1 ≤ 8 by omega))
    refine L_block ?_
    refine L_reg [9, 10, 12, 31, 32, 33] (fun K hK => ?_)
    simp [hlt, hld]
    apply hK; clear hK K
    refine L_reg [9, 10, 12, 31, 32, 33] (fun K hK => ?_)
    simp [okFn_low]
    refine rowBefore_ac s b _ _ hs (by omega) ?_
    generalize rowB s b = w at *
    simp [wrap_i64 (a := 1 + (w : Int)) (by omega), mulNat, wrap_i64 (a := ((a * (1 + w) : Nat) : Int)) (by omega), -Int.natCast_mul, -Int.natCast_add]
    apply hK; clear hK K
    refine L_reg [9, 10, 31, 32, 33] (fun K hK => ?_)
    simp [okFn_low, -Int.natCast_mul, -Int.natCast_add]
    refine with_ac s b _ _ hs (by omega) ?_
    simp [-Int.natCast_mul, -Int.natCast_add]
    apply hK; clear hK K
    refine L_reg [9, 10, 31, 32, 33] (fun K hK => ?_)
    simp [wrap_i64 (a := (i : Int) + 1) (by omega), -Int.natCast_mul, -Int.natCast_add]
    apply hK; clear hK K
    exact ⟨l'.length - (i + 1), [.int .i64 (a * (1 + w) : Nat), .int .u64 (s ||| 2 ^ b : Nat), .int .i64 (i + 1 : Nat)], by omega, by simp [-Int.natCast_mul], i + 1, s ||| 2 ^ b, a * (1 + w), rfl, by omega, Nat.or_lt_two_pow hs (Nat.pow_lt_pow_right (by decide) (by omega)), ha2, hd, by rw [Nat.mul_assoc]; exact hp, rfl, rfl⟩
  · refine L_reg [4, 5] (fun K hK => ?_)
    simp
    apply hK; clear hK K
    rw [List.drop_eq_nil_of_le (by omega), waysL, Nat.mul_one] at hp
    rw [← hp] at h
    exact L_ret ⟨.inr rfl, _, rfl, h⟩
end Go.Proofs.Ytojblooaiojmcaa
