/- What stands against counts: the program's way and the reference's. -/
import Derived.Test.YtbimapbcpmeooaaCanQ
namespace Go.Proofs.Ytbimapbcpmeooaa.Cl
open Go Go.Proofs.Ytbimapbcpmeooaa Go.Proofs.Ytbimapbcpmeooaa.AX
set_option maxRecDepth 100000
set_option linter.unusedVariables false
/-- What the others may take. -/
def stk (d : List Nat) (k i : Nat) : Nat := k * (k - 1) + (((d.take i).drop k).map fun y => min y k).sum
theorem stk_lt {d : List Nat} {k i : Nat} (h : i ≤ k) : stk d k i = k * (k - 1) := by
  unfold stk
  rw [List.drop_of_length_le (by rw [List.length_take]; omega)]
  simp
theorem stk_step {d : List Nat} {k i : Nat} (h : i < d.length) (hk : k ≤ i) : stk d k (i + 1) = stk d k i + min d[i] k := by
  unfold stk
  rw [List.take_add_one, List.getElem?_eq_getElem h, List.drop_append_of_le_length (by rw [List.length_take]; omega)]
  simp [List.sum_append]; omega
theorem stk_le {d : List Nat} {k i : Nat} (hk : k ≤ 8) (h8 : d.length ≤ 8) (hb : ∀ x ∈ d, x ≤ 8) : stk d k i ≤ 200 := by
  unfold stk
  have h1 := sum_le8 (c := ((d.take i).drop k).map fun y => min y k) fun x hx => by
    obtain ⟨y, hy, rfl⟩ := List.mem_map.1 hx
    omega
  have h2 : (((d.take i).drop k).map fun y => min y k).length ≤ 8 := by simp; omega
  have h3 : k * (k - 1) ≤ 8 * 8 := Nat.mul_le_mul hk (by omega)
  omega
theorem kk {k : Nat} (h : 1 ≤ k) : (k : Int) * ((k : Int) - 1) = ((k * (k - 1) : Nat) : Int) := by
  obtain ⟨j, rfl⟩ : ∃ j, k = j + 1 := ⟨k - 1, by omega⟩
  rw [Nat.add_sub_cancel, Int.natCast_mul]
  congr 1
  omega
theorem ilmin (x k : Nat) : min (x : Int) (k : Int) = ((min x k : Nat) : Int) := by omega
theorem stands_ac (c : List Nat) (k : Nat) (v : AV) (hk1 : 1 ≤ k) (hk8 : k ≤ c.length) (hb : ∀ x ∈ c, x ≤ 8) (h8 : c.length ≤ 8) (H : AH) (hv : Ls H v (il c)) (Q : AV → AH → Prop) (h : ∀ H', Ext H H' → Q (.bool (agn c k)) H') : AC Try.prog 66 [v, .int .i64 k] H Q := by
  refine L_body 35 Try.func66 rfl rfl ?_
  refine L_reg [0, 1] (fun K hK => ?_)
  simp
  apply hK; clear hK K
  refine L_reg [1, 5] (fun K hK => ?_)
  simp [okFn_low]
  refine desc_ac c v (by omega) _ hv _ (fun u H1 hO hE => ?_)
  simp
  apply hK; clear hK K
  have hu := ownF_ls hO
  rw [agn_eq] at h
  have hsl := srt_len c
  have hsb := srt_le hb
  generalize srtD c = d at *
  have hul := ils_len hu
  have hkk := kk hk1
  have hmul : k * (k - 1) ≤ 8 * 8 := Nat.mul_le_mul (by omega) (by omega)
  obtain ⟨m0, hm0⟩ : ∃ m0, k * (k - 1) = m0 := ⟨_, rfl⟩
  have hst0 : ∀ i, i ≤ k → stk d k i = m0 := fun i hi => by rw [stk_lt hi, hm0]
  have hst1 : stk d k d.length = m0 + ((d.drop k).map fun y => min y k).sum := by unfold stk; rw [List.take_length, hm0]
  rw [hm0] at hkk hmul h
  refine L_reg [1, 5, 6] (fun K hK => ?_)
  simp [wrap_i64 (a := (k : Int) - 1) (by omega), hkk, wrap_i64 (a := (m0 : Int)) (by omega)]
  apply hK; clear hK K
  refine L_reg [1, 5, 6, 7] (fun K hK => ?_)
  simp
  apply hK; clear hK K
  refine L_block (L_loopV [6, 7] (fun q vs H' => ∃ (i : Nat), q = d.length - i ∧ k ≤ i ∧ i ≤ d.length ∧ vs = [.int .i64 (stk d k i : Nat), .int .i64 i] ∧ H1 = H') _ [.int .i64 (m0 : Nat), .int .i64 (k : Nat)] rfl ⟨k, rfl, by omega, by omega, by rw [hst0 k (Nat.le_refl k)], rfl⟩ ?_)
  rintro q _ _ ⟨i, rfl, hki, hi, rfl, rfl⟩
  have hle := stk_le (i := i) (show k ≤ 8 by omega) (show d.length ≤ 8 by omega) hsb
  refine L_reg [1, 5, 6, 7, 18] (fun K hK => ?_)
  simp [hul]
  apply hK; clear hK K
  refine L_dec (i < d.length) (by simp) (fun hlt => ?_) (fun hge => L_exit ?_)
  · refine L_block ?_
    obtain ⟨rz, pz, vz, hix, hldz⟩ := il_ix hu hlt
    have hs := stk_step hlt hki
    generalize d[i] = x at hldz hs
    obtain ⟨z, hz⟩ : ∃ z, stk d k i = z := ⟨_, rfl⟩
    rw [hz] at hs hle ⊢
    have hmn : min x k ≤ 8 := by omega
    refine L_reg [1, 5, 6, 7] (fun K hK => ?_)
    simp [hix, hldz, ilmin, wrap_i64 (a := (z : Int) + ((min x k : Nat) : Int)) (by omega)]
    apply hK; clear hK K
    refine L_reg [1, 5, 6, 7] (fun K hK => ?_)
    simp [wrap_i64 (a := (i : Int) + 1) (by omega)]
    apply hK; clear hK K
    exact ⟨d.length - (i + 1), [.int .i64 (z + min x k : Nat), .int .i64 (i + 1 : Nat)], by omega, by simp, i + 1, rfl, by omega, by omega, by rw [hs], rfl⟩
  · have e : i = d.length := by omega
    subst e
    obtain ⟨w, hw1, hw2⟩ := ls_hi hu (m := k) (by rw [il_len]; omega) (by rw [il_len]; omega)
    rw [← il_take] at hw2
    have htl := take_le8 hsb (by omega) k
    refine L_reg [4] (fun K hK => ?_)
    simp [okFn_low, hw1]
    refine sum_q (d.take k) w (fun x hx => hsb x (List.mem_of_mem_take hx)) (by rw [List.length_take]; omega) _ hw2 _ ?_
    simp
    apply hK; clear hK K
    rw [← hst1] at h
    exact L_ret ⟨.inr rfl, _, rfl, h _ hE⟩
theorem stands_q (c : List Nat) (k : Nat) (v : AV) (hk1 : 1 ≤ k) (hk8 : k ≤ c.length) (hb : ∀ x ∈ c, x ≤ 8) (h8 : c.length ≤ 8) (H : AH) (hv : Ls H v (il c)) (Q : AV → AH → Prop) (h : Q (.bool (agn c k)) H) : AC Try.prog 66 [v, .int .i64 k] H Q :=
  AC.quiet (belB_bool _ _ _) (fun Q h => stands_ac c k v hk1 hk8 hb h8 H hv Q h) Q h
theorem against_ac (c : List Nat) (k : Nat) (v : AV) (hk1 : 1 ≤ k) (hk8 : k ≤ c.length) (hb : ∀ x ∈ c, x ≤ 8) (h8 : c.length ≤ 8) (H : AH) (hv : Ls H v (il c)) (Q : AV → AH → Prop) (h : ∀ H', Ext H H' → Q (.bool (agn c k)) H') : AC Try.prog 64 [v, .int .i64 k] H Q := by
  refine L_body 42 Try.func64 rfl rfl ?_
  refine L_reg [0, 1] (fun K hK => ?_)
  simp
  apply hK; clear hK K
  refine L_reg [1, 5] (fun K hK => ?_)
  simp [okFn_low]
  refine Clone_ac v (il c) _ _ (by rw [il_len]; omega) hv (fun u H1 hO hE => ?_)
  simp
  apply hK; clear hK K
  rcases hO with ⟨h0, -⟩ | ⟨r, ver, st, g1, rfl, g3⟩
  · have : c.length = 0 := by have := congrArg List.length h0; simpa [il] using this
    omega
  rw [List.length_map, il_len] at *
  refine L_reg [1, 5] (fun K hK => ?_)
  simp [okFn_low]
  have hsort := Sort_ac r ver st (il c) H1
  rw [il_len] at hsort
  refine hsort _ g3 (by omega) (fun H2 m s p1 p2 p3 p4 => ?_)
  simp
  apply hK; clear hK K
  obtain ⟨d0, rfl, hpd⟩ := perm_il p1
  have hdl := hpd.length_eq
  have hrev := ReverseA_ac r ver (il d0) H2
  rw [il_len, hdl] at hrev
  refine L_reg [1, 5] (fun K hK => ?_)
  simp [okFn_low]
  refine hrev _ (by omega) ⟨s, p3⟩ (fun H3 q1 q2 => ?_)
  simp
  apply hK; clear hK K
  rw [il_rev] at q1
  have hds : d0.reverse = srtD c := srtD_of ((List.reverse_perm d0).trans hpd) (up_il p2)
  rw [hds] at q1
  have hE3 : Ext H H3 := (p4.trans q2).new hE g1
  have hu := q1.ls
  rw [il_len, srt_len] at hu
  rw [agn_eq] at h
  have hsl := srt_len c
  have hsb := srt_le hb
  rw [← hsl] at hu ⊢
  generalize srtD c = d at *
  have hul := ils_len hu
  have hkk := kk hk1
  have hmul : k * (k - 1) ≤ 8 * 8 := Nat.mul_le_mul (by omega) (by omega)
  obtain ⟨m0, hm0⟩ : ∃ m0, k * (k - 1) = m0 := ⟨_, rfl⟩
  have hst0 : ∀ i, i ≤ k → stk d k i = m0 := fun i hi => by rw [stk_lt hi, hm0]
  have hst1 : stk d k d.length = m0 + ((d.drop k).map fun y => min y k).sum := by unfold stk; rw [List.take_length, hm0]
  rw [hm0] at hkk hmul h
  refine L_reg [1, 5, 6, 7] (fun K hK => ?_)
  simp [wrap_i64 (a := (k : Int) - 1) (by omega), hkk, wrap_i64 (a := (m0 : Int)) (by omega)]
  apply hK; clear hK K
  refine L_reg [1, 6, 7, 20, 21, 22] (fun K hK => ?_)
  simp
  apply hK; clear hK K
  refine L_block (L_loopV [6, 7, 22] (fun q vs H' => ∃ (i : Nat), q = d.length - i ∧ i ≤ d.length ∧ vs = [.int .i64 ((d.take (min i k)).sum : Nat), .int .i64 (stk d k i : Nat), .int .i64 i] ∧ H3 = H') _ [.int .i64 (0 : Nat), .int .i64 (m0 : Nat), .int .i64 (0 : Nat)] rfl ⟨0, rfl, by omega, by rw [hst0 0 (Nat.zero_le k)]; simp, rfl⟩ ?_)
  rintro q _ _ ⟨i, rfl, hi, rfl, rfl⟩
  have hle := stk_le (i := i) (show k ≤ 8 by omega) (show d.length ≤ 8 by omega) hsb
  have htl := take_le8 hsb (by omega) (min i k)
  refine L_reg [1, 6, 7, 20, 21, 22, 23] (fun K hK => ?_)
  simp
  apply hK; clear hK K
  refine L_dec (i < d.length) (by simp) (fun hlt => ?_) (fun hge => L_exit ?_)
  · refine L_block ?_
    obtain ⟨rz, pz, vz, hix, hldz⟩ := il_ix hu hlt
    have hs := fun hki => stk_step (k := k) hlt hki
    have hs2 := sum_take hlt
    have hx := hsb _ (List.getElem_mem hlt)
    generalize d[i] = x at hldz hs hs2 hx
    refine L_reg [1, 6, 7, 8, 9, 20, 21, 22] (fun K hK => ?_)
    simp [hix, hldz]
    apply hK; clear hK K
    refine L_reg [1, 6, 7, 9, 20, 21, 22, 29] (fun K hK => ?_)
    simp
    apply hK; clear hK K
    refine L_dec (i < k) (by simp) (fun hik => ?_) (fun hik => ?_)
    · have e1 : min i k = i := by omega
      have e2 : min (i + 1) k = i + 1 := by omega
      obtain ⟨z, hz⟩ : ∃ z, (d.take i).sum = z := ⟨_, rfl⟩
      rw [e1, hz] at htl
      rw [hz] at hs2
      rw [e1, hz]
      refine L_reg [1, 6, 7, 20, 21, 22] (fun K hK => ?_)
      simp [wrap_i64 (a := (z : Int) + (x : Int)) (by omega)]
      apply hK; clear hK K
      refine L_reg [1, 6, 7, 20, 21, 22] (fun K hK => ?_)
      simp [wrap_i64 (a := (i : Int) + 1) (by omega)]
      apply hK; clear hK K
      exact ⟨d.length - (i + 1), [.int .i64 (z + x : Nat), .int .i64 (stk d k i : Nat), .int .i64 (i + 1 : Nat)], by omega, by simp, i + 1, rfl, by omega, by rw [e2, hs2, stk_lt (show i ≤ k by omega), stk_lt (show i + 1 ≤ k by omega)], rfl⟩
    · have e1 : min i k = k := by omega
      have e2 : min (i + 1) k = k := by omega
      have hs := hs (by omega)
      obtain ⟨z, hz⟩ : ∃ z, stk d k i = z := ⟨_, rfl⟩
      rw [hz] at hs hle ⊢
      have hmn : min x k ≤ 8 := by omega
      refine L_reg [1, 6, 7, 20, 21, 22] (fun K hK => ?_)
      simp [ilmin, wrap_i64 (a := (z : Int) + ((min x k : Nat) : Int)) (by omega)]
      apply hK; clear hK K
      refine L_reg [1, 6, 7, 20, 21, 22] (fun K hK => ?_)
      simp [wrap_i64 (a := (i : Int) + 1) (by omega)]
      apply hK; clear hK K
      exact ⟨d.length - (i + 1), [.int .i64 ((d.take (min i k)).sum : Nat), .int .i64 (z + min x k : Nat), .int .i64 (i + 1 : Nat)], by omega, by simp, i + 1, rfl, by omega, by rw [e1, e2, hs], rfl⟩
  · have e : i = d.length := by omega
    subst e
    have e1 : min d.length k = k := by omega
    rw [e1]
    refine L_reg [4] (fun K hK => ?_)
    simp
    apply hK; clear hK K
    rw [← hst1] at h
    exact L_ret ⟨.inr rfl, _, rfl, h _ hE3⟩
theorem against_q (c : List Nat) (k : Nat) (v : AV) (hk1 : 1 ≤ k) (hk8 : k ≤ c.length) (hb : ∀ x ∈ c, x ≤ 8) (h8 : c.length ≤ 8) (H : AH) (hv : Ls H v (il c)) (Q : AV → AH → Prop) (h : Q (.bool (agn c k)) H) : AC Try.prog 64 [v, .int .i64 k] H Q :=
  AC.quiet (belB_bool _ _ _) (fun Q h => against_ac c k v hk1 hk8 hb h8 H hv Q h) Q h
/-- The first number that stands against counts: the program's way (60) and the reference's (63). -/
theorem first_q (c : List Nat) (v : AV) (hb : ∀ x ∈ c, x ≤ 8) (h8 : c.length ≤ 8) (H : AH) (hv : Ls H v (il c)) (Q : AV → AH → Prop) (h : Q (.int .i64 (fstA c : Nat)) H) : AC Try.prog 60 [v] H Q := by
  have hvl := ils_len hv
  refine L_body 14 Try.func60 rfl rfl ?_
  refine L_reg [0] (fun K hK => ?_)
  simp
  apply hK; clear hK K
  refine L_reg [0, 3] (fun K hK => ?_)
  simp
  apply hK; clear hK K
  refine L_block (L_loopV [3] (fun q vs H' => ∃ (i : Nat), q = c.length - i ∧ i ≤ c.length ∧ vs = [.int .i64 (i + 1 : Nat)] ∧ H = H' ∧ fstA c = fstF c (c.length - i) i) _ [.int .i64 (1 : Nat)] rfl ⟨0, rfl, by omega, rfl, rfl, rfl⟩ ?_)
  rintro q _ _ ⟨i, rfl, hi, rfl, rfl, hf⟩
  refine L_reg [0, 3, 7] (fun K hK => ?_)
  simp [hvl]
  apply hK; clear hK K
  refine L_dec (i + 1 ≤ c.length) (by simp; omega) (fun hlt => ?_) (fun hge => L_exit ?_)
  · refine L_block ?_
    rw [show c.length - i = (c.length - (i + 1)) + 1 by omega, fstF] at hf
    refine L_reg [0, 3, 12] (fun K hK => ?_)
    simp [okFn_low]
    refine against_q c (i + 1) v (by omega) (by omega) hb h8 _ hv _ ?_
    simp
    apply hK; clear hK K
    by_cases ca : agn c (i + 1) = true
    · rw [if_pos ca] at hf
      refine L_true (by simpa using ca) ?_
      refine L_reg [2] (fun K hK => ?_)
      simp
      apply hK; clear hK K
      exact L_ret ⟨.inr rfl, _, rfl, by rw [hf] at h; simpa using h⟩
    · rw [if_neg ca] at hf
      refine L_false (by simpa using ca) ?_
      refine L_reg [0, 3] (fun K hK => ?_)
      simp [wrap_i64 (a := (i : Int) + 1 + 1) (by omega)]
      apply hK; clear hK K
      exact ⟨c.length - (i + 1), [.int .i64 (i + 1 + 1 : Nat)], by omega, by simp, i + 1, rfl, by omega, rfl, rfl, hf⟩
  · have e : i = c.length := by omega
    subst e
    rw [Nat.sub_self, fstF] at hf
    refine L_reg [2] (fun K hK => ?_)
    simp
    apply hK; clear hK K
    exact L_ret ⟨.inr rfl, _, rfl, by rw [hf] at h; exact h⟩
theorem why_q (c : List Nat) (v : AV) (hb : ∀ x ∈ c, x ≤ 8) (h8 : c.length ≤ 8) (H : AH) (hv : Ls H v (il c)) (Q : AV → AH → Prop) (h : Q (.int .i64 (fstA c : Nat)) H) : AC Try.prog 63 [v] H Q := by
  have hvl := ils_len hv
  refine L_body 14 Try.func63 rfl rfl ?_
  refine L_reg [0] (fun K hK => ?_)
  simp
  apply hK; clear hK K
  refine L_reg [0, 3] (fun K hK => ?_)
  simp
  apply hK; clear hK K
  refine L_block (L_loopV [3] (fun q vs H' => ∃ (i : Nat), q = c.length - i ∧ i ≤ c.length ∧ vs = [.int .i64 (i + 1 : Nat)] ∧ H = H' ∧ fstA c = fstF c (c.length - i) i) _ [.int .i64 (1 : Nat)] rfl ⟨0, rfl, by omega, rfl, rfl, rfl⟩ ?_)
  rintro q _ _ ⟨i, rfl, hi, rfl, rfl, hf⟩
  refine L_reg [0, 3, 7] (fun K hK => ?_)
  simp [hvl]
  apply hK; clear hK K
  refine L_dec (i + 1 ≤ c.length) (by simp; omega) (fun hlt => ?_) (fun hge => L_exit ?_)
  · refine L_block ?_
    rw [show c.length - i = (c.length - (i + 1)) + 1 by omega, fstF] at hf
    refine L_reg [0, 3, 12] (fun K hK => ?_)
    simp [okFn_low]
    refine stands_q c (i + 1) v (by omega) (by omega) hb h8 _ hv _ ?_
    simp
    apply hK; clear hK K
    by_cases ca : agn c (i + 1) = true
    · rw [if_pos ca] at hf
      refine L_true (by simpa using ca) ?_
      refine L_reg [2] (fun K hK => ?_)
      simp
      apply hK; clear hK K
      exact L_ret ⟨.inr rfl, _, rfl, by rw [hf] at h; simpa using h⟩
    · rw [if_neg ca] at hf
      refine L_false (by simpa using ca) ?_
      refine L_reg [0, 3] (fun K hK => ?_)
      simp [wrap_i64 (a := (i : Int) + 1 + 1) (by omega)]
      apply hK; clear hK K
      exact ⟨c.length - (i + 1), [.int .i64 (i + 1 + 1 : Nat)], by omega, by simp, i + 1, rfl, by omega, rfl, rfl, hf⟩
  · have e : i = c.length := by omega
    subst e
    rw [Nat.sub_self, fstF] at hf
    refine L_reg [2] (fun K hK => ?_)
    simp
    apply hK; clear hK K
    exact L_ret ⟨.inr rfl, _, rfl, by rw [hf] at h; exact h⟩
end Go.Proofs.Ytbimapbcpmeooaa.Cl
