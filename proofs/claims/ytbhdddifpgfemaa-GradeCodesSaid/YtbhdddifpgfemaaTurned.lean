/- Pairs that are turned, and how many a set has. -/
import Derived.Test.YtbhdddifpgfemaaFrom
namespace Go.Proofs.Ytbhdddifpgfemaa
open Go Go.Proofs.Ytbhdddifpgfemaa.AX

set_option maxRecDepth 100000 in
theorem same_ac (u v : AV) (l m : List Int) (H : AH) (Q : AV → AH → Prop) (hl : l.length ≤ 1048576) (hu : Ls H u l) (hv : Ls H v m) (h : Q (.bool (decide (l = m))) H) : AC Try.prog 22 [u, v] H Q := by
  obtain ⟨r, off, ver, sz, full, rfl, hu⟩ := hu
  obtain ⟨r2, off2, ver2, sz2, full2, rfl, hv⟩ := hv
  refine L_body 26 Try.func22 rfl rfl ?_
  refine L_reg [0, 1] (fun K hK => ?_)
  simp
  apply hK; clear hK K
  refine L_reg [0, 1, 10] (fun K hK => ?_)
  simp
  apply hK; clear hK K
  by_cases hlen : l.length = m.length
  case neg =>
    refine L_true (by simp; omega) ?_
    refine L_reg [4] (fun K hK => ?_)
    simp
    apply hK; clear hK K
    have : l ≠ m := fun e => hlen (by rw [e])
    rw [decide_eq_false this] at h
    exact L_ret ⟨.inr rfl, _, rfl, h⟩
  refine L_false (by simp [hlen]) ?_
  refine L_reg [0, 1, 5] (fun K hK => ?_)
  simp
  apply hK; clear hK K
  refine L_block (L_loopV [5] (fun k vs H' => ∃ (i : Nat), k = l.length - i ∧ i ≤ l.length ∧ (l.drop i = m.drop i → l = m) ∧ vs = [.int .i64 i] ∧ H' = H) _ [.int .i64 (0 : Nat)] rfl ⟨0, rfl, by omega, by simp, rfl, rfl⟩ ?_)
  rintro k _ _ ⟨i, rfl, hi, hs, rfl, rfl⟩
  refine L_reg [0, 1, 5, 14] (fun K hK => ?_)
  simp
  apply hK; clear hK K
  refine L_dec (i < l.length) (by simp) (fun hlt => ?_) (fun hge => L_exit ?_)
  · obtain ⟨r', rfl, rfl, hld⟩ := hu i hlt
    obtain ⟨r3, rfl, rfl, hld2⟩ := hv i (by omega)
    rw [List.drop_eq_getElem_cons hlt, List.drop_eq_getElem_cons (by omega : i < m.length)] at hs
    refine L_block ?_
    refine L_regT mixed [0, 1, 5, 25] (by kernel_rfl) (fun K hK => ?_)
    simp [hlt, ← hlen, hld, hld2]
    apply hK; clear hK K
    by_cases he : l[i] = m[i]
    · refine L_false (by simp [he]) ?_
      rw [he] at hs
      refine L_reg [0, 1, 5] (fun K hK => ?_)
      simp [wrap_i64 (a := (i : Int) + 1) (by omega)]
      apply hK; clear hK K
      exact ⟨l.length - (i + 1), [.int .i64 (i + 1 : Nat)], by omega, by simp [hlen], i + 1, rfl, by omega, fun e => hs (by rw [e]), rfl, rfl⟩
    · refine L_true (by simp [he]) ?_
      refine L_reg [4] (fun K hK => ?_)
      simp
      apply hK; clear hK K
      have : l ≠ m := fun e => he (by subst e; rfl)
      rw [decide_eq_false this] at h
      exact L_ret ⟨.inr rfl, _, rfl, h⟩
  · refine L_reg [4] (fun K hK => ?_)
    simp
    apply hK; clear hK K
    have : l = m := hs (by rw [List.drop_eq_nil_of_le (by omega), List.drop_eq_nil_of_le (by omega)])
    rw [decide_eq_true this] at h
    exact L_ret ⟨.inr rfl, _, rfl, h⟩

/-- The pairs of one bale and later ones. -/
def inT (x : Int) : List Int → Nat → Nat
  | [], acc => acc
  | y :: ys, acc => inT x ys (if y < x ∧ 0 ≤ y ∧ x < 7 then acc ||| 2 ^ (7 * y.toNat + x.toNat) else acc)
def turnS : List Int → Nat → Nat
  | [], acc => acc
  | x :: l, acc => turnS l (inT x l acc)
theorem inT_lt (x : Int) : ∀ (l : List Int) (acc : Nat), acc < 2 ^ 64 → inT x l acc < 2 ^ 64
  | [], _, h => h
  | y :: l, acc, h => by
    unfold inT
    apply inT_lt x l
    split
    · exact Nat.or_lt_two_pow h (Nat.pow_lt_pow_right (by decide) (by omega))
    · exact h
theorem turnS_lt : ∀ (l : List Int) (acc : Nat), acc < 2 ^ 64 → turnS l acc < 2 ^ 64
  | [], _, h => h
  | x :: l, acc, h => turnS_lt l _ (inT_lt x l acc h)

set_option maxRecDepth 100000 in
theorem turned_ac (v : AV) (l : List Int) (H : AH) (Q : AV → AH → Prop) (hl : l.length ≤ 1000000) (hv : Ls H v l) (h : Q (.int .u64 (turnS l 0 : Nat)) H) : AC Try.prog 51 [v] H Q := by
  obtain ⟨r, off, ver, sz, full, rfl, hld⟩ := hv
  refine L_body 45 Try.func51 rfl rfl ?_
  refine L_reg [0] (fun K hK => ?_)
  simp
  apply hK; clear hK K
  refine L_reg [0, 3] (fun K hK => ?_)
  simp
  apply hK; clear hK K
  refine L_reg [0, 3, 8, 9, 10] (fun K hK => ?_)
  simp
  apply hK; clear hK K
  refine L_block (L_loopV [3, 10] (fun m vs H' => ∃ (i acc : Nat), m = l.length - i ∧ i ≤ l.length ∧ acc < 2 ^ 64 ∧ turnS l 0 = turnS (l.drop i) acc ∧ vs = [.int .u64 (acc : Nat), .int .i64 i] ∧ H = H') _ [.int .u64 (0 : Nat), .int .i64 (0 : Nat)] rfl ⟨0, 0, rfl, by omega, by decide, rfl, rfl, rfl⟩ ?_)
  rintro m _ _ ⟨i, acc, rfl, hi, ha, hvs, rfl, rfl⟩
  refine L_reg [0, 3, 8, 9, 10, 11] (fun K hK => ?_)
  simp
  apply hK; clear hK K
  refine L_dec (i < l.length) (by simp) (fun hlt => ?_) (fun hge => L_exit ?_)
  · obtain ⟨r', rfl, rfl, hrd⟩ := hld i hlt
    rw [List.drop_eq_getElem_cons hlt] at hvs
    simp only [turnS] at hvs
    generalize l[i] = x at hrd hvs
    refine L_block ?_
    refine L_reg [0, 3, 4, 5, 8, 9, 10] (fun K hK => ?_)
    simp [hlt, hrd]
    apply hK; clear hK K
    have hsl : aSlice Try.prog 22 (.slice (some r') off l.length ver 1 full) (some (.int .i64 ((i : Int) + 1))) none none = some (.slice (some r') (off + (i + 1)) (l.length - (i + 1)) ver 1 full) := by
      have := slice_lo slz22 (some r') off l.length ver full (k := .i64) (i := i + 1) (by omega)
      simpa using this
    refine L_reg [0, 3, 5, 8, 9, 10, 18, 19, 20] (fun K hK => ?_)
    simp [wrap_i64 (a := (i : Int) + 1) (by omega), hsl]
    apply hK; clear hK K
    obtain ⟨n, hn⟩ : ∃ n, n = l.length - (i + 1) := ⟨_, rfl⟩
    rw [← hn]
    refine L_block (L_loopV [3, 20] (fun m vs H' => ∃ (j acc : Nat), m = n - j ∧ j ≤ n ∧ acc < 2 ^ 64 ∧ turnS l 0 = turnS (l.drop (i + 1)) (inT x (l.drop (i + 1 + j)) acc) ∧ vs = [.int .u64 (acc : Nat), .int .i64 j] ∧ H = H') _ [.int .u64 (acc : Nat), .int .i64 (0 : Nat)] rfl ⟨0, acc, rfl, by omega, ha, hvs, rfl, rfl⟩ ?_)
    rintro m _ _ ⟨j, acc, rfl, hj, ha, hvs, rfl, rfl⟩
    refine L_reg [0, 3, 5, 8, 9, 10, 18, 19, 20, 21] (fun K hK => ?_)
    simp
    apply hK; clear hK K
    refine L_dec (j < n) (by simp) (fun hjn => ?_) (fun hjn => L_exit ?_)
    · obtain ⟨r2, he2, -, hrd3⟩ := hld (i + 1 + j) (by omega)
      obtain rfl := Option.some.inj he2
      rw [show off + (i + 1 + j) = off + (i + 1) + j by omega] at hrd3
      rw [List.drop_eq_getElem_cons (by omega : i + 1 + j < l.length)] at hvs
      simp only [inT] at hvs
      rw [show i + 1 + j + 1 = i + 1 + (j + 1) by omega] at hvs
      generalize l[i + 1 + j] = y at hrd3 hvs
      refine L_block ?_
      refine L_reg [0, 3, 5, 7, 8, 9, 10, 18, 19, 20] (fun K hK => ?_)
      simp [hjn, hrd3]
      apply hK; clear hK K
      by_cases hc : y < x ∧ 0 ≤ y ∧ x < 7
      · rw [if_pos hc] at hvs
        obtain ⟨b, rfl⟩ := Int.eq_ofNat_of_zero_le hc.2.1
        obtain ⟨a, rfl⟩ := Int.eq_ofNat_of_zero_le (show 0 ≤ x by omega)
        rw [Int.toNat_natCast, Int.toNat_natCast] at hvs
        have hb64 : 7 * b + a < 64 := by omega
        have hsh := fun lit => n_shl64' (P := Try.prog) (t := 48) (l := lit) (k' := .i64) (7 * b + a) hb64
        have hor := fun lit => or64' (P := Try.prog) (t := 48) (l := lit) acc (7 * b + a) ha hb64
        have hacc : acc ||| 2 ^ (7 * b + a) < 2 ^ 64 := Nat.or_lt_two_pow ha (Nat.pow_lt_pow_right (by decide) hb64)
        generalize acc ||| 2 ^ (7 * b + a) = acc' at hvs hor hacc
        refine L_reg [0, 3, 5, 7, 8, 9, 10, 18, 19, 20, 34] (fun K hK => ?_)
        simp [hc.1, hc.2.2, pickV]
        apply hK; clear hK K
        refine L_true (by simp; try omega) ?_
        refine L_reg [0, 3, 5, 8, 9, 10, 18, 19, 20] (fun K hK => ?_)
        have hexp : ((7 * b + a : Nat) : Int) = 7 * (b : Int) + (a : Int) := by omega
        rw [hexp] at hsh
        simp [wrap_i64 (a := 7 * (b : Int)) (by omega), wrap_i64 (a := 7 * (b : Int) + (a : Int)) (by omega), hsh, hor, -b_shl, -b_or]
        apply hK; clear hK K
        refine L_reg [0, 3, 5, 8, 9, 10, 18, 19, 20] (fun K hK => ?_)
        simp [wrap_i64 (a := (j : Int) + 1) (by omega)]
        apply hK; clear hK K
        exact ⟨n - (j + 1), [.int .u64 (acc' : Nat), .int .i64 (j + 1 : Nat)], by omega, by simp, j + 1, acc', rfl, by omega, hacc, hvs, rfl, rfl⟩
      · rw [if_neg hc] at hvs
        have hval : ∃ t : Bool, t = (decide (y < x) && decide (0 ≤ y) && decide (x < 7)) := ⟨_, rfl⟩
        by_cases h1 : y < x
        · by_cases h2 : 0 ≤ y
          · have h3 : ¬ x < 7 := fun h3 => hc ⟨h1, h2, h3⟩
            refine L_reg [0, 3, 5, 7, 8, 9, 10, 18, 19, 20, 34] (fun K hK => ?_)
            simp [h1, h2, h3, pickV]
            apply hK; clear hK K
            refine L_false (by simp; try omega) ?_
            refine L_reg [0, 3, 5, 8, 9, 10, 18, 19, 20] (fun K hK => ?_)
            simp [wrap_i64 (a := (j : Int) + 1) (by omega)]
            apply hK; clear hK K
            exact ⟨n - (j + 1), [.int .u64 (acc : Nat), .int .i64 (j + 1 : Nat)], by omega, by simp, j + 1, acc, rfl, by omega, ha, hvs, rfl, rfl⟩
          · refine L_reg [0, 3, 5, 7, 8, 9, 10, 18, 19, 20, 34] (fun K hK => ?_)
            simp [h1, h2, pickV]
            apply hK; clear hK K
            refine L_false (by simp; try omega) ?_
            refine L_reg [0, 3, 5, 8, 9, 10, 18, 19, 20] (fun K hK => ?_)
            simp [wrap_i64 (a := (j : Int) + 1) (by omega)]
            apply hK; clear hK K
            exact ⟨n - (j + 1), [.int .u64 (acc : Nat), .int .i64 (j + 1 : Nat)], by omega, by simp, j + 1, acc, rfl, by omega, ha, hvs, rfl, rfl⟩
        · refine L_reg [0, 3, 5, 7, 8, 9, 10, 18, 19, 20, 34] (fun K hK => ?_)
          simp [h1, pickV]
          apply hK; clear hK K
          refine L_false (by simp; try omega) ?_
          refine L_reg [0, 3, 5, 8, 9, 10, 18, 19, 20] (fun K hK => ?_)
          simp [wrap_i64 (a := (j : Int) + 1) (by omega)]
          apply hK; clear hK K
          exact ⟨n - (j + 1), [.int .u64 (acc : Nat), .int .i64 (j + 1 : Nat)], by omega, by simp, j + 1, acc, rfl, by omega, ha, hvs, rfl, rfl⟩
    · rw [List.drop_of_length_le (by omega : l.length ≤ i + 1 + j)] at hvs
      simp only [inT] at hvs
      refine L_reg [0, 3, 8, 9, 10] (fun K hK => ?_)
      simp [wrap_i64 (a := (i : Int) + 1) (by omega)]
      apply hK; clear hK K
      exact ⟨l.length - (i + 1), [.int .u64 (acc : Nat), .int .i64 (i + 1 : Nat)], by omega, by simp, i + 1, acc, rfl, by omega, ha, hvs, rfl, rfl⟩
  · rw [List.drop_of_length_le (by omega)] at hvs
    simp only [turnS] at hvs
    rw [hvs] at h
    refine L_reg [2] (fun K hK => ?_)
    simp
    apply hK; clear hK K
    exact L_ret ⟨.inr rfl, _, rfl, h⟩
/-- A set of p pairs. -/
def isPop : Nat → Nat → Bool
  | 0, s => s == 0
  | p + 1, s => s != 0 && isPop p (s &&& (s - 1))
theorem isPop_zero : ∀ {p : Nat}, isPop p 0 = true → p = 0
  | 0, _ => rfl
  | p + 1, h => by simp [isPop] at h
theorem isPop_pos {p s : Nat} (h : isPop p s = true) (hs : s ≠ 0) : ∃ p', p = p' + 1 ∧ isPop p' (s &&& (s - 1)) = true := by
  cases p with
  | zero => simp [isPop] at h; exact absurd h hs
  | succ p => simp [isPop] at h; exact ⟨p, rfl, h.2⟩
set_option maxRecDepth 100000 in
theorem size_ac (s p : Nat) (H : AH) (Q : AV → AH → Prop) (hs : s < 2 ^ 64) (hp : isPop p s = true) (hp2 : p ≤ 64) (h : Q (.int .i64 (p : Nat)) H) : AC Try.prog 52 [.int .u64 s] H Q := by
  refine L_body 13 Try.func52 rfl rfl ?_
  refine L_reg [0] (fun K hK => ?_)
  simp
  apply hK; clear hK K
  refine L_reg [0, 3] (fun K hK => ?_)
  simp
  apply hK; clear hK K
  refine L_block (L_loopV [0, 3] (fun m vs H' => ∃ (s' c p' : Nat), m = p' ∧ s' < 2 ^ 64 ∧ isPop p' s' = true ∧ c + p' = p ∧ vs = [.int .u64 (s' : Nat), .int .i64 c] ∧ H = H') _ [.int .u64 (s : Nat), .int .i64 (0 : Nat)] rfl ⟨s, 0, p, rfl, hs, hp, by omega, rfl, rfl⟩ ?_)
  rintro p' _ _ ⟨s', c, _, rfl, hs', hp', hc, rfl, rfl⟩
  refine L_reg [0, 3, 5] (fun K hK => ?_)
  simp
  apply hK; clear hK K
  by_cases h0 : s' = 0
  · subst h0
    have := isPop_zero hp'
    subst this
    refine L_false (by simp) (L_exit ?_)
    refine L_reg [2] (fun K hK => ?_)
    simp
    apply hK; clear hK K
    exact L_ret ⟨.inr rfl, _, rfl, by rw [show p = c by omega] at h; exact h⟩
  · obtain ⟨p2, rfl, hp2'⟩ := isPop_pos hp' h0
    have hand := fun lit => n_and64 (P := Try.prog) (t := 48) (l := lit) s' (s' - 1) hs' (by omega)
    have hsub : ((s' - 1 : Nat) : Int) = (s' : Int) - 1 := by omega
    rw [hsub] at hand
    have hlt : s' &&& (s' - 1) < 2 ^ 64 := Nat.lt_of_le_of_lt Nat.and_le_left hs'
    generalize s' &&& (s' - 1) = s2 at hand hp2' hlt
    refine L_true (by simp [h0]) ?_
    refine L_block ?_
    refine L_reg [0, 3] (fun K hK => ?_)
    simp [wrap_i64 (a := (c : Int) + 1) (by omega)]
    apply hK; clear hK K
    refine L_reg [0, 3] (fun K hK => ?_)
    simp [wrap_u64 (a := (s' : Int) - 1) (by omega), hand, -b_and]
    apply hK; clear hK K
    exact ⟨p2, [.int .u64 (s2 : Nat), .int .i64 (c + 1 : Nat)], by omega, by simp, s2, c + 1, p2, rfl, hlt, hp2', by omega, rfl, rfl⟩
end Go.Proofs.Ytbhdddifpgfemaa
