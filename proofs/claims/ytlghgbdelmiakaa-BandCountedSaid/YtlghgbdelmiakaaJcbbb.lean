/- Joined texts: WCounted, Open. -/
import Derived.Test.YtlghgbdelmiakaaJcbba
import Derived.Test.YtlghgbdelmiakaaAxT
import Derived.Shelf.Vars
/- As many words are straight as are counted: the walk. -/
namespace Go.Proofs.Ytlghgbdelmiakaa
open Go Go.Proofs.Ytlghgbdelmiakaa.AX

theorem wrap_u16 {a : Int} (h : 0 ≤ a ∧ a < 65536) : IntKind.u16.wrap a = a := by
  unfold IntKind.wrap
  have e1 : (2 : Int) ^ IntKind.u16.bits = 65536 := by decide
  simp only [e1]
  rw [if_neg (by simp [IntKind.signed])]
  omega
theorem n_shl16 {P : Program} {t : TypeId} {l : Bool} {k' : IntKind} (b : Nat) (hb : b < 16) : binV P .shl t l (.int .u16 1) (.int k' (b : Int)) = some (.int .u16 ((2 ^ b : Nat) : Int)) := by
  rw [b_shl (Int.natCast_nonneg b)]
  have : b ≤ IntKind.u16.bits := Nat.le_of_lt hb
  have e : ((2 : Int) ^ b) = ((2 ^ b : Nat) : Int) := by simp
  have h2 : 2 ^ b < 2 ^ 16 := Nat.pow_lt_pow_right (by decide) hb
  rw [Int.toNat_natCast, Nat.min_eq_left this, Int.one_mul, e]
  generalize 2 ^ b = p at *
  rw [wrap_u16 (by omega)]
/-- How many of the words of the first numbers are straight. -/
def nStr (n s : Nat) : Nat := ((List.range s).filter fun t => strB (spell n t)).length
theorem nStr_succ (n s : Nat) : nStr n (s + 1) = nStr n s + if strB (spell n s) then 1 else 0 := by
  unfold nStr
  rw [List.range_succ, List.filter_append, List.length_append]
  cases h : strB (spell n s) <;> simp [h]
theorem nStr_le (n s : Nat) : nStr n s ≤ s := Nat.le_trans (List.length_filter_le _ _) (by simp)
set_option maxRecDepth 100000 in
theorem all_tab : ((List.range 12).all fun n => Nat.beq n 0 || Nat.beq (allS n).length (cntS n)) = true := by decide +kernel
theorem nStr_full {n : Nat} (h1 : 1 ≤ n) (h2 : n ≤ 11) : nStr n (2 ^ n) = cntS n := by
  have h := List.all_eq_true.1 all_tab n (List.mem_range.2 (by omega))
  have : Nat.beq n 0 = false := by
    cases h3 : Nat.beq n 0 with
    | false => rfl
    | true => have := Nat.eq_of_beq_eq_true h3; omega
  rw [this, Bool.false_or] at h
  rw [← Nat.eq_of_beq_eq_true h, allS_eq]
  rfl
theorem strP_part {w : List UInt8} {a l : Nat} (h : strP w) : strP ((w.drop a).take l) := by
  intro len x y h1 hx hy
  have hlen : ((w.drop a).take l).length = min l (w.length - a) := by simp
  rw [hlen] at hx hy
  have := h len (a + x) (a + y) h1 (by omega) (by omega)
  rw [List.drop_take, List.take_take, List.drop_drop, List.drop_take, List.take_take, List.drop_drop, Nat.min_eq_left (by omega), Nat.min_eq_left (by omega)]
  exact this
set_option maxRecDepth 100000 in
theorem str_tab : ((List.range 17).all fun k => fstr (madeS 16 k)) = true := by decide +kernel
theorem part_str {k a l : Nat} (hk : k ≤ 16) : strB (((madeS 16 k).drop a).take l) = true := by
  have h := List.all_eq_true.1 str_tab k (List.mem_range.2 (by omega))
  rw [fstr_eq, strB_iff] at h
  exact (strB_iff _).2 (strP_part h)
theorem okW_part {w : List UInt8} {a l : Nat} (h : okW w = true) : okW ((w.drop a).take l) = true := by
  unfold okW at *
  rw [List.all_eq_true] at *
  exact fun x hx => h x (List.drop_subset _ _ (List.take_subset _ _ hx))
theorem strV_in {w : List UInt8} (h : Wok w) : strV w = .tuple [.bool (strB w), .int .i64 0] := by unfold strV; rw [if_pos h.chk]
set_option maxRecDepth 100000 in
set_option maxHeartbeats 1000000 in
theorem bandCounted_ac {m : Int} (a b f l : Nat) (ha : a < 256) (hb : b < 256) (hf : f < 256) (hl : l < 256) (H : AH) (hg : GM m H) : AC Try.prog 10 [.int .u8 a, .int .u8 b, .int .u8 f, .int .u8 l] H fun v _ => v = .bool true := by
  refine L_body 141 Try.func10 rfl rfl ?_
  refine L_reg [0, 1, 2, 3] (fun K hK => ?_)
  simp
  apply hK; clear hK K
  have t1 := tmod_nat a 11
  obtain ⟨n, hn⟩ : ∃ n, n = 1 + a % 11 := ⟨_, rfl⟩
  have hn1 : 1 ≤ n ∧ n ≤ 11 := by omega
  have hn2 : (1 : Int) + (a : Int) % 11 = n := by omega
  rw [show ((11 : Nat) : Int) = 11 from rfl] at t1
  refine L_reg [1, 2, 3, 9] (fun K hK => ?_)
  simp [wrap_i64 (a := (a : Int)) (by omega), t1, hn2, wrap_i64 (a := (n : Int)) (by omega)]
  apply hK; clear hK K
  refine L_reg [1, 2, 3, 9, 10] (fun K hK => ?_)
  simp
  apply hK; clear hK K
  have hsh : ∀ l', binV Try.prog .shl 45 l' (.int .u16 1) (.int .i64 (n : Int)) = some (.int .u16 ((2 ^ n : Nat) : Int)) := fun l' => n_shl16 n (by omega)
  have hfull := nStr_full hn1.1 hn1.2
  have hN2 : 2 ^ n ≤ 2 ^ 11 := Nat.pow_le_pow_right (by decide) hn1.2
  obtain ⟨N, hN⟩ : ∃ N, 2 ^ n = N := ⟨_, rfl⟩
  rw [hN] at hfull hN2
  simp only [hN] at hsh
  refine L_reg [1, 2, 3, 9, 10, 32, 33] (fun K hK => ?_)
  simp [hsh]
  apply hK; clear hK K
  refine L_block (L_loopV [10, 33] (fun r vs H' => ∃ s : Nat, r = N - s ∧ s ≤ N ∧ vs = [.int .i64 (nStr n s), .int .u16 s] ∧ H = H') _ [.int .i64 0, .int .u16 0] rfl ⟨0, rfl, by omega, rfl, rfl⟩ ?_)
  rintro r _ _ ⟨s, rfl, hs, rfl, rfl⟩
  refine L_reg [1, 2, 3, 9, 10, 32, 33, 34] (fun K hK => ?_)
  simp
  apply hK; clear hK K
  refine L_dec (s < N) (by simp) (fun hlt => ?_) (fun hge => L_exit ?_)
  · refine L_block ?_
    refine L_reg [1, 2, 3, 9, 10, 11, 32, 33] (fun K hK => ?_)
    simp
    apply hK; clear hK K
    have hsc := nStr_succ n s
    have hcl := nStr_le n s
    have hW0 := spell_len n s
    have hWo := spell_ok n s
    refine L_reg [1, 2, 3, 9, 10, 11, 12, 32, 33] (fun K hK => ?_)
    simp [okFn_low]
    refine spelled_ac n s (by omega) (by omega) (by omega) _ _ ?_
    simp
    apply hK; clear hK K
    obtain ⟨c2, hc2⟩ : ∃ c, nStr n (s + 1) = c := ⟨_, rfl⟩
    rw [hc2] at hsc
    generalize nStr n s = c at *
    generalize spell n s = w at *
    have hk : Wok w := ⟨by omega, by omega, hWo⟩
    refine L_reg [1, 2, 3, 9, 10, 11, 12, 13, 32, 33] (fun K hK => ?_)
    simp [okFn_low]
    refine strL_ac w hk.lo (by omega) _ _ ?_
    simp
    apply hK; clear hK K
    have hV := strV_in hk
    refine L_reg [1, 2, 3, 9, 10, 11, 12, 13, 32, 33, 41] (fun K hK => ?_)
    simp
    apply hK; clear hK K
    have u1 := tmod_nat s 5
    have u2 := tmod_nat f 5
    rw [show ((5 : Nat) : Int) = 5 from rfl] at u1 u2
    cases hbw : strB w with
    | true =>
      rw [hbw] at hsc hV
      simp only [if_true] at hsc
      refine L_true rfl ?_
      refine L_reg [1, 2, 3, 9, 10, 11, 12, 13, 32, 33] (fun K hK => ?_)
      simp [wrap_i64 (a := (c : Int) + 1) (by omega)]
      apply hK; clear hK K
      refine L_reg [1, 2, 3, 9, 10, 12, 13, 32, 33, 49] (fun K hK => ?_)
      simp [u1, wrap_u16 (a := (f : Int)) (by omega), u2]
      apply hK; clear hK K
      refine L_dec (s % 5 = f % 5) (by simp; rw [Bool.eq_iff_iff, beq_iff_eq, decide_eq_true_eq]; omega) (fun h5 => ?_) (fun h5 => ?_)
      · refine L_reg [1, 2, 3, 9, 10, 13, 14, 15, 32, 33] (fun K hK => ?_)
        simp [okFn_low]
        refine Straight_ac w _ _ ?_
        simp [hV]
        apply hK; clear hK K
        refine L_reg [1, 2, 3, 9, 10, 32, 33, 61] (fun K hK => ?_)
        simp [neqB4, pickV]
        apply hK; clear hK K
        refine L_false (by simp) ?_
        refine L_reg [1, 2, 3, 9, 10, 32, 33] (fun K hK => ?_)
        simp [wrap_u16 (a := (s : Int) + 1) (by omega)]
        apply hK; clear hK K
        exact ⟨N - (s + 1), [.int .i64 ((c + 1 : Nat) : Int), .int .u16 (s + 1 : Nat)], by omega, by simp, s + 1, rfl, by omega, by rw [hc2, hsc], rfl⟩
      · refine L_reg [1, 2, 3, 9, 10, 32, 33] (fun K hK => ?_)
        simp [wrap_u16 (a := (s : Int) + 1) (by omega)]
        apply hK; clear hK K
        exact ⟨N - (s + 1), [.int .i64 ((c + 1 : Nat) : Int), .int .u16 (s + 1 : Nat)], by omega, by simp, s + 1, rfl, by omega, by rw [hc2, hsc], rfl⟩
    | false =>
      rw [hbw] at hsc hV
      simp only [Bool.false_eq_true, if_false, Nat.add_zero] at hsc
      refine L_false rfl ?_
      refine L_reg [1, 2, 3, 9, 10, 12, 13, 32, 33, 49] (fun K hK => ?_)
      simp [u1, wrap_u16 (a := (f : Int)) (by omega), u2]
      apply hK; clear hK K
      refine L_dec (s % 5 = f % 5) (by simp; rw [Bool.eq_iff_iff, beq_iff_eq, decide_eq_true_eq]; omega) (fun h5 => ?_) (fun h5 => ?_)
      · refine L_reg [1, 2, 3, 9, 10, 13, 14, 15, 32, 33] (fun K hK => ?_)
        simp [okFn_low]
        refine Straight_ac w _ _ ?_
        simp [hV]
        apply hK; clear hK K
        refine L_reg [1, 2, 3, 9, 10, 32, 33, 61] (fun K hK => ?_)
        simp [neqB4, pickV]
        apply hK; clear hK K
        refine L_false (by simp) ?_
        refine L_reg [1, 2, 3, 9, 10, 32, 33] (fun K hK => ?_)
        simp [wrap_u16 (a := (s : Int) + 1) (by omega)]
        apply hK; clear hK K
        exact ⟨N - (s + 1), [.int .i64 (c : Int), .int .u16 (s + 1 : Nat)], by omega, by simp, s + 1, rfl, by omega, by rw [hc2, hsc], rfl⟩
      · refine L_reg [1, 2, 3, 9, 10, 32, 33] (fun K hK => ?_)
        simp [wrap_u16 (a := (s : Int) + 1) (by omega)]
        apply hK; clear hK K
        exact ⟨N - (s + 1), [.int .i64 (c : Int), .int .u16 (s + 1 : Nat)], by omega, by simp, s + 1, rfl, by omega, by rw [hc2, hsc], rfl⟩
  · have hsN : s = N := by omega
    subst hsN
    rw [hfull]
    have hcv : cntV (n : Int) = .tuple [.int .i64 (cntS n), .int .i64 0] := by unfold cntV; rw [if_pos (by omega)]; rfl
    refine L_reg [1, 2, 3, 9, 10, 16, 17] (fun K hK => ?_)
    simp [okFn_low]
    refine Count_ac n _ _ ?_
    simp [hcv]
    apply hK; clear hK K
    refine L_reg [1, 2, 3, 9, 10, 16, 17, 18] (fun K hK => ?_)
    simp
    apply hK; clear hK K
    refine L_reg [1, 2, 3, 9, 10, 16, 17, 18, 19] (fun K hK => ?_)
    simp
    apply hK; clear hK K
    refine L_block (L_loopV [18, 19] (fun r vs H' => ∃ k : Nat, r = n - k ∧ k ≤ n ∧ vs = [.int .i64 (pS n k), .int .i64 (k + 1 : Nat)] ∧ H = H') _ [.int .i64 1, .int .i64 1] rfl ⟨0, rfl, by omega, rfl, rfl⟩ ?_)
    rintro r _ _ ⟨k, rfl, hk, rfl, rfl⟩
    refine L_reg [1, 2, 3, 9, 10, 16, 17, 18, 19, 70] (fun K hK => ?_)
    simp
    apply hK; clear hK K
    refine L_dec (k + 1 ≤ n) (by simp; omega) (fun hlt => ?_) (fun hge => L_exit ?_)
    · refine L_block ?_
      refine L_reg [1, 2, 3, 9, 10, 16, 17, 18, 19, 20] (fun K hK => ?_)
      simp
      apply hK; clear hK K
      refine L_block (L_loopV [18, 20] (fun m vs H' => ∃ j : Nat, m = k + 1 - j ∧ j ≤ k + 1 ∧ vs = [.int .i64 (pt n k j), .int .i64 (j + 1 : Nat)] ∧ H = H') _ [.int .i64 (pS n k), .int .i64 1] rfl ⟨0, rfl, by omega, by rw [pt_zero]; rfl, rfl⟩ ?_)
      rintro r _ _ ⟨j, rfl, hj, rfl, rfl⟩
      refine L_reg [1, 2, 3, 9, 10, 16, 17, 18, 19, 20, 75] (fun K hK => ?_)
      simp
      apply hK; clear hK K
      refine L_dec (j + 1 ≤ k + 1) (by simp) (fun hlt2 => ?_) (fun hge2 => L_exit ?_)
      · refine L_block ?_
        have hs := pt_succ n k j
        have b2 := pt_le (n := n) (k := k) (j := j) (by omega) (by omega) (by omega)
        have hd := divL_ac (k + 1) (j + 1) (by omega) (by omega) H
        rw [show ((k + 1 : Nat) : Int) = (k : Int) + 1 by omega, show ((j + 1 : Nat) : Int) = (j : Int) + 1 by omega] at hd
        obtain ⟨d, hdd⟩ : ∃ d, Nat.gcd (k + 1) (j + 1) = d := ⟨_, rfl⟩
        simp only [hdd] at hs hd
        have e1 : (n : Int) - (k + 1) + 1 = ((n - (k + 1) + 1 : Nat) : Int) := by omega
        obtain ⟨q, hq⟩ : ∃ q, n - (k + 1) + 1 = q := ⟨_, rfl⟩
        rw [hq] at hs e1
        refine L_reg [1, 2, 3, 9, 10, 16, 17, 18, 19, 20, 81] (fun K hK => ?_)
        simp [okFn_low]
        refine hd _ ?_
        simp
        apply hK; clear hK K
        by_cases e : d = 1
        · refine L_true (by simp [e]) ?_
          rw [if_pos e] at hs
          refine L_reg [1, 2, 3, 9, 10, 16, 17, 18, 19, 20] (fun K hK => ?_)
          simp [wrap_i64 (a := (n : Int) - (k + 1)) (by omega), e1, wrap_i64 (a := (q : Int)) (by omega), wrap_i64 (a := (pt n k j : Int) + q) (by omega)]
          apply hK; clear hK K
          refine L_reg [1, 2, 3, 9, 10, 16, 17, 18, 19, 20] (fun K hK => ?_)
          simp [wrap_i64 (a := (j : Int) + 1 + 1) (by omega)]
          apply hK; clear hK K
          exact ⟨k + 1 - (j + 1), [.int .i64 (pt n k (j + 1)), .int .i64 (j + 1 + 1 : Nat)], by omega, by simp [hs], j + 1, rfl, by omega, rfl, rfl⟩
        · refine L_false (by simp; omega) ?_
          rw [if_neg e] at hs
          refine L_reg [1, 2, 3, 9, 10, 16, 17, 18, 19, 20] (fun K hK => ?_)
          simp [wrap_i64 (a := (j : Int) + 1 + 1) (by omega)]
          apply hK; clear hK K
          exact ⟨k + 1 - (j + 1), [.int .i64 (pt n k (j + 1)), .int .i64 (j + 1 + 1 : Nat)], by omega, by simp [hs], j + 1, rfl, by omega, rfl, rfl⟩
      · have hjk : j = k + 1 := by omega
        subst hjk
        rw [pt_full]
        refine L_reg [1, 2, 3, 9, 10, 16, 17, 18, 19] (fun K hK => ?_)
        simp [wrap_i64 (a := (k : Int) + 1 + 1) (by omega)]
        apply hK; clear hK K
        exact ⟨n - (k + 1), [.int .i64 (pS n (k + 1)), .int .i64 (k + 1 + 1 : Nat)], by omega, by simp, k + 1, rfl, by omega, rfl, rfl⟩
    · have hkn : k = n := by omega
      subst hkn
      rw [show pS k k = cntS k from rfl]
      refine L_reg [1, 2, 3, 99] (fun K hK => ?_)
      simp [pickV]
      apply hK; clear hK K
      refine L_false (by simp) ?_
      clear hcv hfull hge hsh
      have t3 := tmod_nat b 17
      rw [show ((17 : Nat) : Int) = 17 from rfl] at t3
      obtain ⟨q, hq⟩ : ∃ q, q = b % 17 := ⟨_, rfl⟩
      have hq2 : (b : Int) % 17 = q := by omega
      have hMk := makeV_in (n := 16) (k := q) (by omega) (by omega) (by omega)
      rw [show ((16 : Nat) : Int) = 16 from rfl] at hMk
      refine L_reg [2, 3, 21, 22] (fun K hK => ?_)
      simp [okFn_low, wrap_i64 (a := (b : Int)) (by omega), t3, hq2]
      refine Make_ac _ _ _ _ ?_
      simp [hMk]
      apply hK; clear hK K
      have hw0 := madeS_len 16 q
      have hw1 := madeS_ok 16 q
      have hw2 : ∀ a l, strB (((madeS 16 q).drop a).take l) = true := fun a l => part_str (by omega)
      generalize madeS 16 q = w at *
      refine L_reg [2, 3, 21, 113] (fun K hK => ?_)
      simp [hw0, pickV]
      apply hK; clear hK K
      refine L_false (by simp) ?_
      have t4 := tmod_nat f 16
      rw [show ((16 : Nat) : Int) = 16 from rfl] at t4
      obtain ⟨x, hx⟩ : ∃ x, x = f % 16 := ⟨_, rfl⟩
      have hx2 : (f : Int) % 16 = x := by omega
      refine L_reg [3, 21, 23] (fun K hK => ?_)
      simp [wrap_i64 (a := (f : Int)) (by omega), t4, hx2]
      apply hK; clear hK K
      have t5 := tmod_nat l (16 - x)
      obtain ⟨y, hy⟩ : ∃ y, y = l % (16 - x) := ⟨_, rfl⟩
      have hy1 : y < 16 - x := hy ▸ Nat.mod_lt _ (by omega)
      rw [← hy, show ((16 - x : Nat) : Int) = 16 - (x : Int) by omega] at t5
      have hne : (16 : Int) - x ≠ 0 := by omega
      have hsl := sl9 (s := w) (a := x) (b := x + 1 + y) (by omega) (by omega) .i64 .i64
      rw [show ((x + 1 + y : Nat) : Int) = (x : Int) + 1 + y by omega] at hsl
      refine L_reg [24] (fun K hK => ?_)
      simp [wrap_i64 (a := (x : Int) + 1) (by omega), wrap_i64 (a := (l : Int)) (by omega), wrap_i64 (a := (16 : Int) - x) (by omega), t5, hne, wrap_i64 (a := (x : Int) + 1 + y) (by omega), hsl]
      apply hK; clear hK K
      have hP : strV ((w.drop x).take (x + 1 + y - x)) = .tuple [.bool true, .int .i64 0] := by
        have hWk : Wok ((w.drop x).take (x + 1 + y - x)) := ⟨by simp; omega, by simp; omega, okW_part hw1⟩
        rw [strV_in hWk, hw2]
      refine L_reg [25, 26] (fun K hK => ?_)
      simp [okFn_low]
      refine Straight_ac _ _ _ ?_
      simp [hP]
      apply hK; clear hK K
      refine L_reg [8] (fun K hK => ?_)
      simp [okFn_low, pickV]
      refine works_ac _ hg _ ?_
      simp [pickV]
      apply hK; clear hK K
      exact L_ret ⟨.inr rfl, _, rfl, rfl⟩
theorem bandCounted_u {m : Int} {H : AH} (a b c d : Int) (wa : (Lit.int .u8 a).wf = true) (wb : (Lit.int .u8 b).wf = true) (wc : (Lit.int .u8 c).wf = true) (wd : (Lit.int .u8 d).wf = true) (hg : GM m H) : AC Try.prog 10 [.int .u8 a, .int .u8 b, .int .u8 c, .int .u8 d] H fun v _ => v = .bool true := by
  obtain ⟨a, rfl, ha⟩ := u8_of wa
  obtain ⟨b, rfl, hb⟩ := u8_of wb
  obtain ⟨c, rfl, hc⟩ := u8_of wc
  obtain ⟨d, rfl, hd⟩ := u8_of wd
  exact bandCounted_ac a b c d ha hb hc hd H hg
end Go.Proofs.Ytlghgbdelmiakaa

/- The library's variable, of which the rows say nothing. -/
namespace Go.Proofs.Ytlghgbdelmiakaa
open Go Go.Proofs.Ytlghgbdelmiakaa.AX
theorem maxLen_cells {W : World} (h : W.ShapedOpen Try.prog) : ∃ m : Int, ∀ x ∈ gsM m, ∃ C e fz, W.heap[x.1]? = some (.cells C e fz) ∧ RelVs .empty x.2 C.toList := by
  obtain ⟨m, hm⟩ := cell_of_shapedOpen_int (P := Try.prog) (g := 0) (t := 3) (zero := #[.int .i64 0]) h (of_decide_eq_true (by kernel_rfl)) (by kernel_rfl) rfl (by kernel_rfl) (by kernel_rfl) Try.underlying3
  obtain ⟨cs, hh, hs, -⟩ := h.1 0 #[.int .i64 0] 3 (of_decide_eq_true (by kernel_rfl)) (by kernel_rfl)
  refine ⟨m, fun x hx => ?_⟩
  simp only [gsM, List.mem_singleton] at hx
  subst hx
  refine ⟨cs, _, _, hh, ?_⟩
  have h1 : cs.size = 1 := by simpa using hs
  have hc : W.cell? ⟨0, 0, none⟩ = cs[0]? := by rw [cell_of hh]
  rw [hc] at hm
  have : cs.toList = [.int .i64 m] := by
    have hl : cs.toList.length = 1 := by simpa using h1
    match hq : cs.toList, hl with
    | [v], _ =>
      rw [← Array.getElem?_toList, hq] at hm
      simp at hm
      rw [hm]
  rw [this]
  exact .cons (.int _ _) .nil
end Go.Proofs.Ytlghgbdelmiakaa
