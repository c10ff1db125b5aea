/- The reference counts lists of wishes. -/
import Derived.Test.YtojblooaiojmcaaAt
namespace Go.Proofs.Ytojblooaiojmcaa
open Go Go.Proofs.Ytojblooaiojmcaa.AX

def cho : Nat → Nat → Nat
  | _, 0 => 1
  | 0, _ + 1 => 0
  | n + 1, k + 1 => cho n k + cho n (k + 1)
theorem choose_all : (List.range 9).all (fun m => (List.range (m + 1)).all fun j => match runZ cx 300 91 [.int .i64 (.ofNat m), .int .i64 (.ofNat j)] [] with | some (.int .i64 c, []) => ieq c (.ofNat (cho m j)) | _ => false) = true := by kernel_rfl
theorem choose_ac (m j : Nat) (H : AH) (Q : AV → AH → Prop) (hm : m ≤ 8) (hj : j ≤ m) (h : Q (.int .i64 (cho m j)) H) : AC Try.prog 91 [.int .i64 m, .int .i64 j] H Q := by
  have := List.all_eq_true.1 (List.all_eq_true.1 choose_all m (List.mem_range.2 (by omega))) j (List.mem_range.2 (by omega))
  split at this
  · rename_i c hr
    rw [ieq_eq, beq_iff_eq] at this
    subst this
    exact AC_kernZ cx_ok 300 hr (.cons (.int _ _) (.cons (.int _ _) .nil)) (.int _ _) h
  · cases this

/-- Lists of `more` wishes below `b`, when `above` carts wish for bay b or one behind it. -/
def endS (n : Nat) (l : List Nat) : Nat → Nat → Nat → Nat
  | 0, _, more => if more = 0 then 1 else 0
  | b + 1, above, more => sW (fun j => if above + l.count b + j ≤ n - b then cho more j * endS n l b (above + l.count b + j) (more - j) else 0) (more + 1)
theorem binom_le : ∀ m : Fin 9, ∀ b : Fin 9, sW (fun j => cho m.val j * b.val ^ (m.val - j)) (m.val + 1) ≤ (b.val + 1) ^ m.val := by decide
theorem sW_le2 {g h : Nat → Nat} (hg : ∀ w, g w ≤ h w) : ∀ n, sW g n ≤ sW h n
  | 0 => Nat.le_refl _
  | n + 1 => Nat.add_le_add (sW_le2 hg n) (hg n)
theorem endS_le (n : Nat) (l : List Nat) : ∀ (b a m : Nat), b ≤ 8 → m ≤ 8 → endS n l b a m ≤ b ^ m
  | 0, a, m, _, _ => by
    rw [endS]
    split
    · rename_i h; subst h; decide
    · exact Nat.zero_le _
  | b + 1, a, m, hb, hm => by
    rw [endS]
    refine Nat.le_trans (sW_le2 (h := fun j => cho m j * b ^ (m - j)) (fun j => ?_) _) (binom_le ⟨m, by omega⟩ ⟨b, by omega⟩)
    split
    · exact Nat.mul_le_mul_left _ (endS_le n l b _ _ (by omega) (by omega))
    · exact Nat.zero_le _
theorem pow8_le {b m : Nat} (hb : b ≤ 8) (hm : m ≤ 8) : b ^ m ≤ 16777216 :=
  Nat.le_trans (Nat.pow_le_pow_left hb m) (Nat.le_trans (Nat.pow_le_pow_right (by decide) hm) (by decide))
theorem sW_mem {g : Nat → Nat} {j : Nat} : ∀ {n : Nat}, j < n → g j ≤ sW g n
  | 0, h => by omega
  | n + 1, h => by
    rw [sW]
    by_cases e : j = n
    · subst e; omega
    · have := sW_mem (g := g) (n := n) (j := j) (by omega); omega

theorem count_take_succ {l : List Nat} {b i : Nat} (hi : i < l.length) : (l.take (i + 1)).count b = (l.take i).count b + if l[i] = b then 1 else 0 := by
  rw [List.take_succ_eq_append_getElem hi, List.count_append, List.count_singleton]
  simp

set_option maxRecDepth 100000 in
theorem endings_ac (n : Nat) (v : AV) (l : List Nat) (hn : n ≤ 8) (hl : l.length ≤ 8) : ∀ (b a m : Nat) (H : AH) (Q : AV → AH → Prop), b ≤ n → m ≤ 8 → a + 16 * b ≤ 200 → Ls H v (l.map Int.ofNat) →
    Q (.int .i64 (endS n l b a m : Nat)) H → AC Try.prog 85 [.int .i64 n, v, .int .i64 ((b : Int) - 1), .int .i64 a, .int .i64 m] H Q := by
  intro b
  induction b with
  | zero =>
    intro a m H Q _ hm _ hv h
    rw [endS] at h
    refine L_body 67 Try.func85 rfl rfl ?_
    refine L_reg [0, 1, 2, 3, 4] (fun K hK => ?_)
    simp
    apply hK; clear hK K
    refine L_reg [0, 1, 2, 3, 4, 16] (fun K hK => ?_)
    simp
    apply hK; clear hK K
    refine L_true (by simp) ?_
    refine L_reg [18] (fun K hK => ?_)
    simp
    apply hK; clear hK K
    refine L_dec (0 < m) (by simp) (fun hp => ?_) (fun hz => ?_)
    · refine L_reg [10] (fun K hK => ?_)
      simp
      apply hK; clear hK K
      rw [if_neg (by omega)] at h
      exact L_ret ⟨.inr rfl, _, rfl, h⟩
    · refine L_reg [10] (fun K hK => ?_)
      simp
      apply hK; clear hK K
      rw [if_pos (by omega)] at h
      exact L_ret ⟨.inr rfl, _, rfl, h⟩
  | succ b ih =>
    intro a m H Q hb hm hab hv h
    rw [endS] at h
    obtain ⟨r, off, ver, sz, full, rfl, hld⟩ := id hv
    simp only [List.length_map] at hld ih hv
    rw [show ((b + 1 : Nat) : Int) - 1 = (b : Int) by omega]
    refine L_body 67 Try.func85 rfl rfl ?_
    refine L_reg [0, 1, 2, 3, 4] (fun K hK => ?_)
    simp
    apply hK; clear hK K
    refine L_reg [0, 1, 2, 3, 4, 16] (fun K hK => ?_)
    simp
    apply hK; clear hK K
    refine L_false (by simp) ?_
    refine L_reg [0, 1, 2, 3, 4, 11] (fun K hK => ?_)
    simp
    apply hK; clear hK K
    refine L_reg [0, 1, 2, 3, 4, 11, 12] (fun K hK => ?_)
    simp
    apply hK; clear hK K
    refine L_block (L_loopV [11, 12] (fun k vs H' => ∃ i : Nat, k = l.length - i ∧ i ≤ l.length ∧ vs = [.int .i64 ((l.take i).count b : Nat), .int .i64 i] ∧ H = H') _ [.int .i64 (0 : Nat), .int .i64 (0 : Nat)] rfl ⟨0, rfl, by omega, by simp, rfl⟩ ?_)
    rintro k _ _ ⟨i, rfl, hi, rfl, rfl⟩
    refine L_reg [0, 1, 2, 3, 4, 11, 12, 22] (fun K hK => ?_)
    simp
    apply hK; clear hK K
    refine L_dec (i < l.length) (by simp) (fun hlt => ?_) (fun hge => L_exit ?_)
    · obtain ⟨r', rfl, rfl, hldi⟩ := hld i hlt
      simp only [List.getElem_map] at hldi
      have hcs := count_take_succ (b := b) hlt
      have hcl : (l.take i).count b ≤ 8 := Nat.le_trans List.count_le_length (by simp; omega)
      refine L_block ?_
      refine L_reg [0, 1, 2, 3, 4, 11, 12, 30] (fun K hK => ?_)
      simp [hlt, hldi]
      apply hK; clear hK K
      refine L_dec ((l[i] : Int) = b) (by simp; rfl) (fun he => ?_) (fun hne => ?_)
      · rw [if_pos (by omega)] at hcs
        refine L_reg [0, 1, 2, 3, 4, 11, 12] (fun K hK => ?_)
        simp [wrap_i64 (a := ((l.take i).count b : Int) + 1) (by omega)]
        apply hK; clear hK K
        refine L_reg [0, 1, 2, 3, 4, 11, 12] (fun K hK => ?_)
        simp [wrap_i64 (a := (i : Int) + 1) (by omega)]
        apply hK; clear hK K
        exact ⟨l.length - (i + 1), [.int .i64 ((l.take (i + 1)).count b : Nat), .int .i64 (i + 1 : Nat)], by omega, by simp [hcs], i + 1, rfl, by omega, rfl, rfl⟩
      · rw [if_neg (by omega)] at hcs
        refine L_reg [0, 1, 2, 3, 4, 11, 12] (fun K hK => ?_)
        simp [wrap_i64 (a := (i : Int) + 1) (by omega)]
        apply hK; clear hK K
        exact ⟨l.length - (i + 1), [.int .i64 ((l.take (i + 1)).count b : Nat), .int .i64 (i + 1 : Nat)], by omega, by simp [hcs], i + 1, rfl, by omega, rfl, rfl⟩
    · rw [List.take_of_length_le (by omega)]
      have hcl : l.count b ≤ 8 := Nat.le_trans List.count_le_length hl
      generalize hce : l.count b = c at *
      generalize hge2 : (fun j => if a + c + j ≤ n - b then cho m j * endS n l b (a + c + j) (m - j) else 0) = g at h
      have hgl : sW g (m + 1) ≤ 16777216 := by
        rw [← hge2]
        refine Nat.le_trans (sW_le2 (h := fun j => cho m j * b ^ (m - j)) (fun j => ?_) _) (Nat.le_trans (binom_le ⟨m, by omega⟩ ⟨b, by omega⟩) (pow8_le (b := b + 1) (m := m) (by omega) hm))
        split
        · exact Nat.mul_le_mul_left _ (endS_le n l b _ _ (by omega) (by omega))
        · exact Nat.zero_le _
      refine L_reg [0, 1, 2, 3, 4, 11, 13] (fun K hK => ?_)
      simp
      apply hK; clear hK K
      refine L_reg [0, 1, 2, 3, 4, 11, 13, 14] (fun K hK => ?_)
      simp
      apply hK; clear hK K
      refine L_block (L_loopV [13, 14] (fun k vs H' => ∃ j : Nat, k = m + 1 - j ∧ j ≤ m + 1 ∧ vs = [.int .i64 (sW g j : Nat), .int .i64 j] ∧ H = H') _ [.int .i64 (0 : Nat), .int .i64 (0 : Nat)] rfl ⟨0, rfl, by omega, by simp [sW], rfl⟩ ?_)
      rintro k _ _ ⟨j, rfl, hj, rfl, rfl⟩
      have hsj := sW_mono (g := g) hj
      refine L_reg [0, 1, 2, 3, 4, 11, 13, 14, 35] (fun K hK => ?_)
      simp
      apply hK; clear hK K
      refine L_dec (j ≤ m) (by simp) (fun hjm => ?_) (fun hjm => L_exit ?_)
      · have hsj1 := sW_mono (g := g) (show j + 1 ≤ m + 1 by omega)
        have hgj : sW g (j + 1) = sW g j + g j := rfl
        refine L_block ?_
        refine L_reg [0, 1, 2, 3, 4, 11, 13, 14, 46] (fun K hK => ?_)
        simp [wrap_i64 (a := (a : Int) + c) (by omega), wrap_i64 (a := (a : Int) + c + j) (by omega), wrap_i64 (a := (n : Int) - b) (by omega)]
        apply hK; clear hK K
        refine L_dec (a + c + j ≤ n - b) (by simp; omega) (fun hle => ?_) (fun hgt => ?_)
        · have hg1 : g j = cho m j * endS n l b (a + c + j) (m - j) := by rw [← hge2]; simp only []; rw [if_pos hle]
          have hmul : ((cho m j : Nat) : Int) * (endS n l b (a + c + j) (m - j) : Nat) = (g j : Nat) := by rw [hg1]; simp
          have hm1 : (m : Int) - j = ((m - j : Nat) : Int) := by omega
          refine L_reg [0, 1, 2, 3, 4, 11, 13, 14] (fun K hK => ?_)
          simp [okFn_low]
          refine choose_ac m j _ _ hm hjm ?_
          simp [okFn_low, wrap_i64 (a := (a : Int) + c) (by omega), wrap_i64 (a := (a : Int) + c + j) (by omega), wrap_i64 (a := (b : Int) - 1) (by omega), wrap_i64 (a := (m : Int) - j) (by omega)]
          rw [hm1]
          rw [show (a : Int) + c + j = ((a + c + j : Nat) : Int) by omega]
          refine ih (a + c + j) (m - j) _ _ (by omega) (by omega) (by omega) hv ?_
          simp [hmul, wrap_i64 (a := (g j : Int)) (by omega), wrap_i64 (a := (sW g j : Int) + g j) (by omega)]
          apply hK; clear hK K
          refine L_reg [0, 1, 2, 3, 4, 11, 13, 14] (fun K hK => ?_)
          simp [wrap_i64 (a := (j : Int) + 1) (by omega)]
          apply hK; clear hK K
          exact ⟨m + 1 - (j + 1), [.int .i64 (sW g (j + 1) : Nat), .int .i64 (j + 1 : Nat)], by omega, by simp [hgj], j + 1, rfl, by omega, rfl, rfl⟩
        · have hg1 : g j = 0 := by rw [← hge2]; simp only []; rw [if_neg hgt]
          refine L_reg [0, 1, 2, 3, 4, 11, 13, 14] (fun K hK => ?_)
          simp [wrap_i64 (a := (j : Int) + 1) (by omega)]
          apply hK; clear hK K
          exact ⟨m + 1 - (j + 1), [.int .i64 (sW g (j + 1) : Nat), .int .i64 (j + 1 : Nat)], by omega, by simp [hgj, hg1], j + 1, rfl, by omega, rfl, rfl⟩
      · have hjm' : j = m + 1 := by omega
        subst hjm'
        refine L_reg [10] (fun K hK => ?_)
        simp
        apply hK; clear hK K
        exact L_ret ⟨.inr rfl, _, rfl, h⟩
end Go.Proofs.Ytojblooaiojmcaa
