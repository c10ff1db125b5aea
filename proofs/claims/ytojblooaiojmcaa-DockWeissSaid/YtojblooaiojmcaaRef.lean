/- Dock's reference: carts park. -/
import Derived.Test.YtojblooaiojmcaaPark
import Derived.Test.YtojblooaiojmcaaAxY
namespace Go.Proofs.Ytojblooaiojmcaa
open Go Go.Proofs.Ytojblooaiojmcaa.AX
theorem mixed : Try.prog.follows .mixedOrders = true := by kernel_rfl
theorem sl22 : slSz Try.prog 22 = some 1 := by kernel_rfl

theorem not_mem_take_succ {l : List Int} {x : Int} {i : Nat} (hi : i < l.length) (hx : x ∉ l.take i) (hne : ¬ x = l[i]) : x ∉ l.take (i + 1) := by
  intro hm
  rw [List.take_succ_eq_append_getElem hi] at hm
  rcases List.mem_append.1 hm with h1 | h1
  · exact hx h1
  · exact hne (List.mem_singleton.1 h1)

theorem rhas_ac (v : AV) (l : List Int) (x : Int) (H : AH) (Q : AV → AH → Prop) (hl : l.length ≤ 1048576) (hv : Ls H v l) (h : Q (.bool (decide (x ∈ l))) H) : AC Try.prog 82 [v, .int .i64 x] H Q := by
  obtain ⟨r, off, ver, sz, full, rfl, hv⟩ := hv
  refine L_body 18 Try.func82 rfl rfl ?_
  refine L_reg [0, 1] (fun K hK => ?_)
  simp
  apply hK; clear hK K
  refine L_reg [0, 1, 5] (fun K hK => ?_)
  simp
  apply hK; clear hK K
  refine L_block (L_loopV [5] (fun k vs H' => ∃ i : Nat, k = l.length - i ∧ i ≤ l.length ∧ x ∉ l.take i ∧ vs = [.int .i64 i] ∧ H' = H) _ [.int .i64 (0 : Nat)] rfl ⟨0, rfl, by omega, by simp, rfl, rfl⟩ ?_)
  rintro k _ _ ⟨i, rfl, hi, hx, rfl, rfl⟩
  refine L_reg [0, 1, 5, 9] (fun K hK => ?_)
  simp
  apply hK; clear hK K
  refine L_dec (i < l.length) (by simp) (fun hlt => ?_) (fun hge => L_exit ?_)
  · obtain ⟨r', rfl, rfl, hld⟩ := hv i hlt
    refine L_block ?_
    refine L_reg [0, 1, 5, 17] (fun K hK => ?_)
    simp [hlt, hld]
    apply hK; clear hK K
    refine L_dec (l[i] = x) (by simp; rfl) (fun he => ?_) (fun hne => ?_)
    · refine L_reg [4] (fun K hK => ?_)
      simp
      apply hK; clear hK K
      have : x ∈ l := he ▸ List.getElem_mem hlt
      rw [decide_eq_true this] at h
      exact L_ret ⟨.inr rfl, _, rfl, h⟩
    · refine L_reg [0, 1, 5] (fun K hK => ?_)
      simp [wrap_i64 (a := (i : Int) + 1) (by omega)]
      apply hK; clear hK K
      exact ⟨l.length - (i + 1), [.int .i64 (i + 1 : Nat)], by omega, rfl, i + 1, rfl, by omega, not_mem_take_succ hlt hx (fun e => hne e.symm), rfl, rfl⟩
  · refine L_reg [4] (fun K hK => ?_)
    simp
    apply hK; clear hK K
    rw [List.take_of_length_le (by omega)] at hx
    rw [decide_eq_false hx] at h
    exact L_ret ⟨.inr rfl, _, rfl, h⟩

def nr (out : List Int) : Nat → Nat → Int
  | 0, _ => -1
  | k + 1, w => if (w : Int) ∈ out then nr out k (w + 1) else w

theorem rnext_ac (n w : Nat) (v : AV) (out : List Int) (H : AH) (Q : AV → AH → Prop) (hn : n ≤ 8) (hl : out.length ≤ 1048576) (hv : Ls H v out) (h : Q (.int .i64 (nr out (n - w) w)) H) : AC Try.prog 67 [.int .i64 n, v, .int .i64 w] H Q := by
  refine L_body 19 Try.func67 rfl rfl ?_
  refine L_reg [0, 1, 2] (fun K hK => ?_)
  simp
  apply hK; clear hK K
  refine L_reg [0, 1, 7] (fun K hK => ?_)
  simp
  apply hK; clear hK K
  refine L_block (L_loopV [7] (fun k vs H' => ∃ b : Nat, k = n - b ∧ nr out (n - b) b = nr out (n - w) w ∧ vs = [.int .i64 b] ∧ H' = H) _ [.int .i64 (w : Nat)] rfl ⟨w, rfl, rfl, rfl, rfl⟩ ?_)
  rintro k _ _ ⟨b, rfl, hb, rfl, rfl⟩
  refine L_reg [0, 1, 7, 11] (fun K hK => ?_)
  simp
  apply hK; clear hK K
  refine L_dec (b < n) (by simp) (fun hlt => ?_) (fun hge => L_exit ?_)
  · obtain ⟨m, hm⟩ : ∃ m, n - b = m + 1 := ⟨n - b - 1, by omega⟩
    rw [hm, nr] at hb
    refine L_block ?_
    refine L_reg [0, 1, 7, 17] (fun K hK => ?_)
    simp [okFn_low]
    refine rhas_ac _ out _ _ _ hl hv ?_
    simp
    apply hK; clear hK K
    by_cases hin : (b : Int) ∈ out
    · rw [if_pos hin] at hb
      refine L_false (by simp [hin]) ?_
      refine L_reg [0, 1, 7] (fun K hK => ?_)
      simp [wrap_i64 (a := (b : Int) + 1) (by omega)]
      apply hK; clear hK K
      exact ⟨n - (b + 1), [.int .i64 (b + 1 : Nat)], by omega, rfl, b + 1, rfl, by rw [← hb]; congr 1; omega, rfl, rfl⟩
    · rw [if_neg hin] at hb
      refine L_true (by simp [hin]) ?_
      refine L_reg [6] (fun K hK => ?_)
      simp
      apply hK; clear hK K
      rw [← hb] at h
      exact L_ret ⟨.inr rfl, _, rfl, h⟩
  · refine L_reg [6] (fun K hK => ?_)
    simp
    apply hK; clear hK K
    rw [show n - b = 0 by omega, nr] at hb
    rw [← hb] at h
    exact L_ret ⟨.inr rfl, _, rfl, h⟩

/-- Sets and lists of the same bays. -/
def SameB (s : Nat) (out : List Int) : Prop := ∀ b : Nat, s.testBit b = decide ((b : Int) ∈ out)
theorem SameB.zero : SameB 0 [] := fun b => by simp
theorem SameB.add {s : Nat} {out : List Int} (h : SameB s out) (b : Nat) : SameB (s ||| 2 ^ b) (out ++ [(b : Int)]) := fun c => by
  rw [Nat.testBit_or, h c, Nat.testBit_two_pow]
  have : (b = c) ↔ ((c : Int) = b) := by omega
  simp [this]
theorem SameB.away {s : Nat} {out : List Int} (h : SameB s out) : SameB s (out ++ [-1]) := fun c => by
  rw [h c]
  have : ¬ (c : Int) = -1 := by omega
  simp [this]
theorem nr_ff {s : Nat} {out : List Int} (h : SameB s out) : ∀ (k w : Nat), nr out k w = if ff s k w < w + k then (ff s k w : Int) else -1
  | 0, w => by simp [nr, ff]
  | k + 1, w => by
    rw [nr, ff, h w]
    by_cases hin : (w : Int) ∈ out
    · simp only [hin, if_true, decide_true]
      rw [nr_ff h k (w + 1)]
      rw [show w + 1 + k = w + (k + 1) by omega]
    · simp [hin]
theorem nr_ff' {s : Nat} {out : List Int} (h : SameB s out) {n w : Nat} (hw : w < n) : nr out (n - w) w = if ff s (n - w) w < n then (ff s (n - w) w : Int) else -1 := by
  rw [nr_ff h, show w + (n - w) = n by omega]

theorem rdifferent_ac (n : Nat) (v : AV) (l : List Int) (H : AH) (Q : AV → AH → Prop) (hn : n ≤ 8) (hl : l.length ≤ 1048576) (hv : Ls H v l) (h : Q (.int .i64 (diffS n 0 l).2) H) : AC Try.prog 66 [.int .i64 n, v] H Q := by
  obtain ⟨r, off, ver, sz, full, rfl, -, hsub⟩ := hv.sub
  obtain ⟨_, _, _, _, _, e, hld0⟩ := id hv
  cases e
  refine L_body 28 Try.func66 rfl rfl ?_
  refine L_reg [0, 1] (fun K hK => ?_)
  simp
  apply hK; clear hK K
  refine L_reg [0, 1, 5] (fun K hK => ?_)
  simp
  apply hK; clear hK K
  refine L_block (L_loopV [5] (fun k vs H' => ∃ i s : Nat, k = l.length - i ∧ i ≤ l.length ∧ SameB s (l.take i) ∧ diffS n s (l.drop i) = diffS n 0 l ∧ vs = [.int .i64 i] ∧ H' = H) _ [.int .i64 (0 : Nat)] rfl ⟨0, 0, rfl, by omega, .zero, rfl, rfl, rfl⟩ ?_)
  rintro k _ _ ⟨i, s, rfl, hi, hs, hd, rfl, rfl⟩
  refine L_reg [0, 1, 5, 9] (fun K hK => ?_)
  simp
  apply hK; clear hK K
  refine L_dec (i < l.length) (by simp) (fun hlt => ?_) (fun hge => L_exit ?_)
  · obtain ⟨r', rfl, rfl, hld⟩ := hld0 i hlt
    have hsub' := hsub 0 i (full && i == l.length) (by omega) (by omega)
    simp only [List.drop_zero, Nat.sub_zero] at hsub'
    rw [List.drop_eq_getElem_cons hlt, diffS] at hd
    have htk := List.take_succ_eq_append_getElem hlt
    generalize l[i] = x at hd hld htk
    refine L_block ?_
    refine L_reg [0, 1, 5, 19] (fun K hK => ?_)
    simp [okFn_low, hlt, hld, wrap_i64 (a := (n : Int) - 1) (by omega)]
    refine in_ac _ _ _ _ _ ?_
    simp
    apply hK; clear hK K
    by_cases hx : 0 ≤ x ∧ x < n
    · obtain ⟨b, rfl⟩ := Int.eq_ofNat_of_zero_le hx.1
      have hb : b < n := by omega
      rw [if_neg (by simp [hb])] at hd
      refine L_false (by simp; omega) ?_
      refine L_regT mixed [0, 1, 5, 27] (by kernel_rfl) (fun K hK => ?_)
      simp [okFn_low, hlt, hld, slice_hi sl22 _ _ _ _ _ (show i ≤ l.length by omega)]
      refine exC_mk (fun Q hQ => rhas_ac _ (l.take i) (b : Int) _ Q (by simp; omega) (by simpa using hsub') hQ) ?_
      simp
      apply hK; clear hK K
      simp only [Int.toNat_natCast, hs b] at hd
      refine L_split rfl (fun ht => ?_) (fun ht => ?_)
      · rw [if_pos ht] at hd
        refine L_reg [4] (fun K hK => ?_)
        simp
        apply hK; clear hK K
        rw [← hd] at h
        exact L_ret ⟨.inr rfl, _, rfl, h⟩
      · rw [if_neg (by rw [ht]; simp)] at hd
        refine L_reg [0, 1, 5] (fun K hK => ?_)
        simp [wrap_i64 (a := (i : Int) + 1) (by omega)]
        apply hK; clear hK K
        exact ⟨l.length - (i + 1), [.int .i64 (i + 1 : Nat)], by omega, rfl, i + 1, s ||| 2 ^ b, rfl, by omega, by rw [htk]; exact hs.add b, by simpa using hd, rfl, rfl⟩
    · rw [if_pos hx] at hd
      refine L_true (by simp; omega) ?_
      refine L_reg [4] (fun K hK => ?_)
      simp
      apply hK; clear hK K
      rw [← hd] at h
      exact L_ret ⟨.inr rfl, _, rfl, h⟩
  · refine L_reg [4] (fun K hK => ?_)
    simp
    apply hK; clear hK K
    rw [List.drop_eq_nil_of_le (by omega), diffS] at hd
    rw [← hd] at h
    exact L_ret ⟨.inr rfl, _, rfl, h⟩
end Go.Proofs.Ytojblooaiojmcaa
