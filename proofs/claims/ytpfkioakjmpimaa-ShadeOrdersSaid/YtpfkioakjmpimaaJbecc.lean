/- Joined texts: PubR2, Turn, Works0, Works, WBoxes, Tray, WProved, Begins, TurnM, SumN, OrdM, OrdA, OrdB, OrdC, WTriangle, OrdD, OrdE. -/
import Derived.Test.YtpfkioakjmpimaaJbecb
/- Greatest sums, as the reference finds them; what it tells of boxes. -/
namespace Go.Proofs.Ytpfkioakjmpimaa
open Go Go.Proofs.Ytpfkioakjmpimaa.AX

set_option maxRecDepth 100000 in
theorem wideR_ac (v : AV) (l : List Int) (r : Bool) (H : AH) (Q : AV → AH → Prop) (h1 : 1 ≤ l.length) (hlen : l.length ≤ 7) (hb : Bd 1000 l) (hv : Ls H v l)
    (h : ∀ w H', Ls H' w (wideS r l) → Ext H H' → Q w H') : AC Try.prog 74 [v, .bool r] H Q := by
  refine L_body 51 Try.func74 rfl rfl ?_
  refine L_reg [0, 1] (fun K hK => ?_)
  simp
  apply hK; clear hK K
  refine L_reg [1, 5] (fun K hK => ?_)
  simp [okFn_low]
  refine allR_ac l.length [] l 0 (.slice none 0 0 0 1 false) v _ _ rfl (by simpa using hlen) ⟨none, 0, 0, 1, false, rfl, fun i h => by simp at h⟩ hv (Nat.zero_le _) (fun w H1 hO hE => ?_)
  simp
  apply hK; clear hK K
  have hL := fun p => mem_allS l.length [] l p rfl
  have hall : ∀ b, BestOf (fun p => -sumC r p) (allS l.length [] l) b → b = wideS r l := fun b hb => hb.all
  have hmem : l ∈ allS l.length [] l := (hL l).2 ⟨l, .refl _, rfl⟩
  have hLn : (allS l.length [] l).length ≤ 5040 := by
    have hh : ∀ k, k ≤ 7 → fac k ≤ 5040 := by decide
    exact Nat.le_trans (allS_len l.length [] l rfl) (hh _ hlen)
  have hperm : ∀ p ∈ allS l.length [] l, p.length = l.length ∧ Bd 1000 p := fun p hp => by
    obtain ⟨q, hq, rfl⟩ := (hL p).1 hp
    exact ⟨by simpa using hq.length_eq, by simpa using hb.perm hq⟩
  generalize allS l.length [] l = L at *
  have hwl := lssB_len hO
  have hL0 : 0 < L.length := List.length_pos_of_mem hmem
  obtain ⟨r0, p0, ver0, b0, hix0, hld0, hb0⟩ := lssB_ix hO hL0
  have hix0' : ∀ k, aIndexAddr Try.prog 62 w (.int k 0) = some (.ptr r0 p0 ver0) := hix0
  refine L_reg [1, 5, 6] (fun K hK => ?_)
  simp [hix0', hld0]
  apply hK; clear hK K
  refine L_reg [1, 5, 6, 7] (fun K hK => ?_)
  simp
  apply hK; clear hK K
  refine L_block (L_loopK [1, 5, 6, 7] [6, 7] (fun n vs H' => ∃ (i : Nat) (u : AV) (b : List Int), n = L.length - i ∧ 1 ≤ i ∧ i ≤ L.length ∧ BestOf (fun p => -sumC r p) (L.take i) b ∧ Ls H1 u b ∧ vs = [u, .int .i64 i] ∧ H1 = H') _ [b0, .int .i64 1] rfl rfl ⟨1, b0, L[0], rfl, by omega, by omega, ?_, hb0, rfl, rfl⟩ ?_)
  · have e : L.take 1 = [L[0]] := by rw [List.take_add_one, List.getElem?_eq_getElem hL0]; rfl
    rw [e]
    exact ⟨by simp, fun p hp => by rw [List.mem_singleton.1 hp]; exact .refl _ _⟩
  rintro n _ _ ⟨i, u, b, rfl, hi1, hi, hB, hu, rfl, rfl⟩
  have hbm : b ∈ L := List.mem_of_mem_take hB.1
  have hbp := hperm b hbm
  refine L_reg [1, 5, 6, 7, 18] (fun K hK => ?_)
  simp [hwl]
  apply hK; clear hK K
  refine L_dec (i < L.length) rfl (fun hlt => ?_) (fun hge => L_exit ?_)
  · refine L_block ?_
    have hlt' : i < L.length := by omega
    obtain ⟨rz, pz, vz, x, hix, hld, hx⟩ := lssB_ix hO hlt'
    have hxp := hperm L[i] (List.getElem_mem hlt')
    have hS := hB.step (x := L[i]) (by rw [hxp.1, hbp.1])
    have htk : L.take (i + 1) = L.take i ++ [L[i]] := by rw [List.take_add_one, List.getElem?_eq_getElem hlt']; rfl
    rw [← htk] at hS
    have hnext : i + 1 ≤ L.length := hlt'
    generalize L[i] = y at *
    refine L_reg [1, 5, 6, 7, 8, 9] (fun K hK => ?_)
    simp [okFn_low, hix, hld]
    refine sumR_ac x y r _ _ (by omega) hxp.2 hx ?_
    simp [okFn_low]
    refine sumR_ac u b r _ _ (by omega) hbp.2 hu ?_
    simp
    apply hK; clear hK K
    rcases Int.lt_trichotomy (sumC r b) (sumC r y) with e | e | e
    · rw [if_pos (.inl (by omega))] at hS
      refine L_reg [1, 5, 6, 7, 45] (fun K hK => ?_)
      simp [e, pickV]
      apply hK; clear hK K
      refine L_true rfl ?_
      refine L_reg [1, 5, 6, 7] (fun K hK => ?_)
      simp [hix, hld]
      apply hK; clear hK K
      refine L_reg [1, 5, 6, 7] (fun K hK => ?_)
      simp [wrap_i64 (a := (i : Int) + 1) (by omega)]
      apply hK; clear hK K
      exact ⟨L.length - (i + 1), [x, .int .i64 (i + 1 : Nat)], by omega, by simp, i + 1, x, y, rfl, by omega, hnext, hS, hx, rfl, rfl⟩
    · have e2 : ¬ sumC r b < sumC r y := by omega
      refine L_reg [1, 5, 6, 7, 45] (fun K hK => ?_)
      simp [okFn_low, e.symm, hix, hld]
      refine smaller_ac x u y b _ _ (by rw [hxp.1, hbp.1]) (by omega) hx hu ?_
      simp [pickV]
      apply hK; clear hK K
      refine L_split rfl (fun ht => ?_) (fun hf => ?_)
      · rw [if_pos (.inr ⟨by omega, by simpa using ht⟩)] at hS
        refine L_reg [1, 5, 6, 7] (fun K hK => ?_)
        simp [hix, hld]
        apply hK; clear hK K
        refine L_reg [1, 5, 6, 7] (fun K hK => ?_)
        simp [wrap_i64 (a := (i : Int) + 1) (by omega)]
        apply hK; clear hK K
        exact ⟨L.length - (i + 1), [x, .int .i64 (i + 1 : Nat)], by omega, by simp, i + 1, x, y, rfl, by omega, hnext, hS, hx, rfl, rfl⟩
      · rw [if_neg (fun h => by
          rcases h with h | ⟨-, h⟩
          · omega
          · simp at hf; exact hf h)] at hS
        refine L_reg [1, 5, 6, 7] (fun K hK => ?_)
        simp [wrap_i64 (a := (i : Int) + 1) (by omega)]
        apply hK; clear hK K
        exact ⟨L.length - (i + 1), [u, .int .i64 (i + 1 : Nat)], by omega, by simp, i + 1, u, b, rfl, by omega, hnext, hS, hu, rfl, rfl⟩
    · have e2 : ¬ sumC r b < sumC r y := by omega
      have e3 : ¬ sumC r y = sumC r b := by omega
      have e3b : (sumC r y == sumC r b) = false := by simpa using e3
      rw [if_neg (fun h => by rcases h with h | ⟨h, -⟩ <;> omega)] at hS
      refine L_reg [1, 5, 6, 7, 45] (fun K hK => ?_)
      simp [e2, e3b, pickV]
      apply hK; clear hK K
      refine L_false rfl ?_
      refine L_reg [1, 5, 6, 7] (fun K hK => ?_)
      simp [wrap_i64 (a := (i : Int) + 1) (by omega)]
      apply hK; clear hK K
      exact ⟨L.length - (i + 1), [u, .int .i64 (i + 1 : Nat)], by omega, by simp, i + 1, u, b, rfl, by omega, hnext, hS, hu, rfl, rfl⟩
  · rw [List.take_of_length_le (by omega)] at hB
    have := hall b hB
    subst this
    refine L_reg [4] (fun K hK => ?_)
    simp
    apply hK; clear hK K
    exact L_ret ⟨.inr rfl, _, rfl, h u H1 hu hE⟩
theorem StepR_ac (v : AV) (l : List Int) (r : Bool) (H : AH) (Q : AV → AH → Prop) (hlen : l.length ≤ 1000000) (hv : Ls H v l) (h : Q (.tuple [.int .i64 (if shE l = 0 then stepC r l else 0), .int .i64 (shE l)]) H) : AC Try.prog 17 [v, .bool r] H Q := by
  refine L_body 15 Try.func17 rfl rfl ?_
  refine L_reg [0, 1] (fun K hK => ?_)
  simp
  apply hK; clear hK K
  refine L_reg [0, 1, 6] (fun K hK => ?_)
  simp [okFn_low]
  refine CheckR_ac v l _ _ hlen hv ?_
  simp
  apply hK; clear hK K
  refine L_reg [0, 1, 6, 10] (fun K hK => ?_)
  simp
  apply hK; clear hK K
  by_cases h0 : shE l = 0
  · obtain ⟨b1, b2, b3⟩ := Bd.ok h0
    rw [if_pos h0] at h
    refine L_false (by simp [h0]) ?_
    refine L_reg [4, 5] (fun K hK => ?_)
    simp [okFn_low]
    refine greatestR_ac v l r _ _ hlen b3 hv ?_
    simp
    apply hK; clear hK K
    rw [h0] at h
    exact L_ret ⟨.inr rfl, _, rfl, h⟩
  · rw [if_neg h0] at h
    refine L_true (by simp [h0]) ?_
    refine L_reg [4, 5] (fun K hK => ?_)
    simp
    apply hK; clear hK K
    exact L_ret ⟨.inr rfl, _, rfl, h⟩
theorem SumR_ac (v : AV) (l : List Int) (r : Bool) (H : AH) (Q : AV → AH → Prop) (hlen : l.length ≤ 1000000) (hv : Ls H v l) (h : Q (.tuple [.int .i64 (if shE l = 0 then sumC r l else 0), .int .i64 (shE l)]) H) : AC Try.prog 19 [v, .bool r] H Q := by
  refine L_body 15 Try.func19 rfl rfl ?_
  refine L_reg [0, 1] (fun K hK => ?_)
  simp
  apply hK; clear hK K
  refine L_reg [0, 1, 6] (fun K hK => ?_)
  simp [okFn_low]
  refine CheckR_ac v l _ _ hlen hv ?_
  simp
  apply hK; clear hK K
  refine L_reg [0, 1, 6, 10] (fun K hK => ?_)
  simp
  apply hK; clear hK K
  by_cases h0 : shE l = 0
  · obtain ⟨b1, b2, b3⟩ := Bd.ok h0
    rw [if_pos h0] at h
    refine L_false (by simp [h0]) ?_
    refine L_reg [4, 5] (fun K hK => ?_)
    simp [okFn_low]
    refine sumR_ac v l r _ _ hlen b3 hv ?_
    simp
    apply hK; clear hK K
    rw [h0] at h
    exact L_ret ⟨.inr rfl, _, rfl, h⟩
  · rw [if_neg h0] at h
    refine L_true (by simp [h0]) ?_
    refine L_reg [4, 5] (fun K hK => ?_)
    simp
    apply hK; clear hK K
    exact L_ret ⟨.inr rfl, _, rfl, h⟩
theorem LeastR_ac (v : AV) (l : List Int) (r : Bool) (H : AH) (Q : AV → AH → Prop) (hlen : l.length ≤ 1000000) (hv : Ls H v l) (h : Q (.tuple [.int .i64 (if shE l = 0 then gr (rsS r l) else 0), .int .i64 (shE l)]) H) : AC Try.prog 25 [v, .bool r] H Q := by
  refine AC.quiet (by simp [belB]) (fun Q h => ?_) Q h
  refine L_body 17 Try.func25 rfl rfl ?_
  refine L_reg [0, 1] (fun K hK => ?_)
  simp
  apply hK; clear hK K
  refine L_reg [0, 1, 6] (fun K hK => ?_)
  simp [okFn_low]
  refine CheckR_ac v l _ _ hlen hv ?_
  simp
  apply hK; clear hK K
  refine L_reg [0, 1, 6, 10] (fun K hK => ?_)
  simp
  apply hK; clear hK K
  by_cases h0 : shE l = 0
  · obtain ⟨b1, b2, b3⟩ := Bd.ok h0
    rw [if_pos h0] at h
    refine L_false (by simp [h0]) ?_
    have hpl := (boxS_perm r l).length_eq
    refine L_reg [4, 5] (fun K hK => ?_)
    simp [okFn_low]
    refine boxR_ac v l r _ _ b1 b2 b3 hv (fun w H2 hw hE2 => ?_)
    simp [okFn_low]
    refine greatestR_ac w _ r _ _ (by omega) (b3.perm (boxS_perm r l)) hw ?_
    simp
    apply hK; clear hK K
    have e := least_is r l
    unfold boxS
    rw [e]
    rw [h0] at h
    exact L_ret ⟨.inr rfl, _, rfl, h H2 hE2⟩
  · rw [if_neg h0] at h
    refine L_true (by simp [h0]) ?_
    refine L_reg [4, 5] (fun K hK => ?_)
    simp
    apply hK; clear hK K
    exact L_ret ⟨.inr rfl, _, rfl, h _ (.refl _)⟩
theorem BoxR_ac (v : AV) (l : List Int) (r : Bool) (H : AH) (Q : AV → AH → Prop) (hlen : l.length ≤ 1000000) (hv : Ls H v l) (h : ∀ w H', Ls H' w (orNil (shE l) (boxS r l)) → Ext H H' → Q (.tuple [w, .int .i64 (shE l)]) H') : AC Try.prog 27 [v, .bool r] H Q := by
  refine L_body 15 Try.func27 rfl rfl ?_
  refine L_reg [0, 1] (fun K hK => ?_)
  simp
  apply hK; clear hK K
  refine L_reg [0, 1, 6] (fun K hK => ?_)
  simp [okFn_low]
  refine CheckR_ac v l _ _ hlen hv ?_
  simp
  apply hK; clear hK K
  refine L_reg [0, 1, 6, 10] (fun K hK => ?_)
  simp
  apply hK; clear hK K
  unfold orNil at h
  by_cases h0 : shE l = 0
  · obtain ⟨b1, b2, b3⟩ := Bd.ok h0
    rw [if_pos h0] at h
    refine L_false (by simp [h0]) ?_
    refine L_reg [4, 5] (fun K hK => ?_)
    simp [okFn_low]
    refine boxR_ac v l r _ _ b1 b2 b3 hv (fun w H2 hw hE2 => ?_)
    simp
    apply hK; clear hK K
    rw [h0] at h
    exact L_ret ⟨.inr rfl, _, rfl, h w H2 hw hE2⟩
  · rw [if_neg h0] at h
    refine L_true (by simp [h0]) ?_
    refine L_reg [4, 5] (fun K hK => ?_)
    simp
    apply hK; clear hK K
    exact L_ret ⟨.inr rfl, _, rfl, h _ _ ⟨none, 0, 0, 1, false, rfl, fun i h => by simp at h⟩ (.refl _)⟩
theorem WideR_ac (v : AV) (l : List Int) (r : Bool) (H : AH) (Q : AV → AH → Prop) (hlen : l.length ≤ 1000000) (hv : Ls H v l) (h : ∀ w H', Ls H' w (orNil (shE l) (wideS r l)) → Ext H H' → Q (.tuple [w, .int .i64 (shE l)]) H') : AC Try.prog 34 [v, .bool r] H Q := by
  refine L_body 15 Try.func34 rfl rfl ?_
  refine L_reg [0, 1] (fun K hK => ?_)
  simp
  apply hK; clear hK K
  refine L_reg [0, 1, 6] (fun K hK => ?_)
  simp [okFn_low]
  refine CheckR_ac v l _ _ hlen hv ?_
  simp
  apply hK; clear hK K
  refine L_reg [0, 1, 6, 10] (fun K hK => ?_)
  simp
  apply hK; clear hK K
  unfold orNil at h
  by_cases h0 : shE l = 0
  · obtain ⟨b1, b2, b3⟩ := Bd.ok h0
    rw [if_pos h0] at h
    refine L_false (by simp [h0]) ?_
    refine L_reg [4, 5] (fun K hK => ?_)
    simp [okFn_low]
    refine wideR_ac v l r _ _ b1 b2 b3 hv (fun w H2 hw hE2 => ?_)
    simp
    apply hK; clear hK K
    rw [h0] at h
    exact L_ret ⟨.inr rfl, _, rfl, h w H2 hw hE2⟩
  · rw [if_neg h0] at h
    refine L_true (by simp [h0]) ?_
    refine L_reg [4, 5] (fun K hK => ?_)
    simp
    apply hK; clear hK K
    exact L_ret ⟨.inr rfl, _, rfl, h _ _ ⟨none, 0, 0, 1, false, rfl, fun i h => by simp at h⟩ (.refl _)⟩
theorem MostR_ac (v : AV) (l : List Int) (r : Bool) (H : AH) (Q : AV → AH → Prop) (hlen : l.length ≤ 1000000) (hv : Ls H v l) (h : Q (.tuple [.int .i64 (if shE l = 0 then sumC r (wideS r l) else 0), .int .i64 (shE l)]) H) : AC Try.prog 32 [v, .bool r] H Q := by
  refine AC.quiet (by simp [belB]) (fun Q h => ?_) Q h
  refine L_body 17 Try.func32 rfl rfl ?_
  refine L_reg [0, 1] (fun K hK => ?_)
  simp
  apply hK; clear hK K
  refine L_reg [0, 1, 6] (fun K hK => ?_)
  simp [okFn_low]
  refine CheckR_ac v l _ _ hlen hv ?_
  simp
  apply hK; clear hK K
  refine L_reg [0, 1, 6, 10] (fun K hK => ?_)
  simp
  apply hK; clear hK K
  by_cases h0 : shE l = 0
  · obtain ⟨b1, b2, b3⟩ := Bd.ok h0
    rw [if_pos h0] at h
    refine L_false (by simp [h0]) ?_
    have hp := wideS_perm r l
    have hpl := hp.length_eq
    refine L_reg [4, 5] (fun K hK => ?_)
    simp [okFn_low]
    refine wideR_ac v l r _ _ b1 b2 b3 hv (fun w H2 hw hE2 => ?_)
    simp [okFn_low]
    refine sumR_ac w _ r _ _ (by omega) (b3.perm hp) hw ?_
    simp
    apply hK; clear hK K
    rw [h0] at h
    exact L_ret ⟨.inr rfl, _, rfl, h H2 hE2⟩
  · rw [if_neg h0] at h
    refine L_true (by simp [h0]) ?_
    refine L_reg [4, 5] (fun K hK => ?_)
    simp
    apply hK; clear hK K
    exact L_ret ⟨.inr rfl, _, rfl, h _ (.refl _)⟩
theorem rs_nn (r : Bool) (l : List Int) (_h1 : 1 ≤ l.length) : ∀ x ∈ rsS r l, 0 ≤ x := by
  intro x hx
  obtain ⟨i, hi, rfl⟩ := memg hx
  rw [rsS_len] at hi
  rw [g_rs hi]
  have hA := asc_of (srt_sorted l)
  have := hA i (i + reachS l.length r) (by omega) (by rw [srt_len]; omega)
  omega
theorem idx_mem {x : Int} : ∀ {l : List Int}, x ∈ l → 0 ≤ idx x l
  | y :: l, h => by
    simp only [idx]
    split
    · omega
    · rename_i hne
      have : x ∈ l := by
        rcases List.mem_cons.1 h with e | e
        · exact absurd e hne
        · exact e
      have := idx_mem this
      split <;> omega
theorem idx_get {x : Int} : ∀ {l : List Int} {p : Nat}, idx x l = p → p < l.length ∧ g l p = x
  | [], p, h => by simp only [idx] at h; omega
  | y :: l, p, h => by
    simp only [idx] at h
    split at h
    · rename_i e
      have : p = 0 := by omega
      subst this
      exact ⟨by simp, by simp [g, e]⟩
    · split at h
      · omega
      · have h0 := idx_ge x l
        obtain ⟨q, hq⟩ : ∃ q : Nat, idx x l = q := ⟨(idx x l).toNat, by omega⟩
        obtain ⟨h1, h2⟩ := idx_get hq
        have : p = q + 1 := by omega
        subst this
        exact ⟨by simp; omega, by simpa [g] using h2⟩
theorem idx_nilI (x : Int) : idx x [] = -1 := rfl
set_option maxRecDepth 100000 in
theorem WhyR_ac (v : AV) (l : List Int) (r : Bool) (H : AH) (Q : AV → AH → Prop) (hlen : l.length ≤ 1000) (hv : Ls H v l) (h : Q (.tuple [.int .i64 (whyS r l), .int .i64 (whyE l)]) H) : AC Try.prog 29 [v, .bool r] H Q := by
  refine AC.quiet (by simp [belB]) (fun Q h => ?_) Q h
  have hl := ls_len hv
  refine L_body 46 Try.func29 rfl rfl ?_
  refine L_reg [0, 1] (fun K hK => ?_)
  simp
  apply hK; clear hK K
  refine L_reg [0, 1, 6, 7] (fun K hK => ?_)
  simp [okFn_low]
  refine LeastR_ac v l r _ _ (by omega) hv ?_
  simp
  apply hK; clear hK K
  unfold whyS at h
  unfold whyE at h
  by_cases h0 : shE l = 0
  · obtain ⟨b1, b2, b3⟩ := Bd.ok h0
    rw [if_pos h0] at h
    by_cases h2 : l.length = 1
    · refine L_reg [0, 1, 6, 7, 22] (fun K hK => ?_)
      simp [h0, hl, h2, pickV]
      apply hK; clear hK K
      refine L_true rfl ?_
      refine L_reg [0, 1, 6, 7] (fun K hK => ?_)
      simp
      apply hK; clear hK K
      refine L_reg [0, 1, 6, 7, 24] (fun K hK => ?_)
      simp
      apply hK; clear hK K
      refine L_true rfl ?_
      refine L_reg [4, 5] (fun K hK => ?_)
      simp
      apply hK; clear hK K
      exact L_ret ⟨.inr rfl, _, rfl, by simpa [h2] using h _ (.refl _)⟩
    · have h2b : ((l.length : Int) == 1) = false := by simp; omega
      refine L_reg [0, 1, 6, 7, 22] (fun K hK => ?_)
      simp [h0, hl, h2b, pickV]
      apply hK; clear hK K
      refine L_false rfl ?_
      refine L_reg [0, 1, 6, 7, 24] (fun K hK => ?_)
      simp
      apply hK; clear hK K
      refine L_false rfl ?_
      rw [if_neg h2, if_pos rfl] at h
      have hsh := (shE_ok h0).2.2
      refine L_reg [0, 1, 6, 8] (fun K hK => ?_)
      simp [okFn_low]
      refine sortedR_ac v l _ _ hlen hv (fun w H1 hO hE => ?_)
      simp
      apply hK; clear hK K
      rw [srtR_eq hsh] at hO
      have hw := hO.own.ls
      have hv1 := hv.ext hE
      have hbs := b3.perm (srt_perm l)
      have hsl := srt_len l
      obtain ⟨hr1, hr2⟩ := reach_le b1 r
      have hrl := rsS_len r l
      have hlt : reachS l.length r < l.length := by unfold reachS; split <;> omega
      have hg : ∀ i, i < l.length - reachS l.length r → g (rsS r l) i = g (srt l) (i + reachS l.length r) - g (srt l) i := fun i hi => g_rs hi
      have hmx : gr (rsS r l) ∈ rsS r l := gr_mem (rs_nn r l b1) (by intro e; rw [e] at hrl; simp at hrl; omega)
      have hle : ∀ i, i < (rsS r l).length → g (rsS r l) i ≤ gr (rsS r l) := fun i hi => le_gr (gmem hi)
      generalize gr (rsS r l) = m at *
      generalize rsS r l = R at *
      have hix0 : 0 ≤ idx m R := idx_mem hmx
      refine L_reg [0, 1, 6, 8, 9] (fun K hK => ?_)
      simp
      apply hK; clear hK K
      refine L_block (L_loopV [9] (fun n vs H' => ∃ i : Nat, n = R.length - i ∧ i < R.length ∧ off i (idx m (R.drop i)) = idx m R ∧ vs = [.int .i64 i] ∧ H1 = H') _ [.int .i64 0] rfl ⟨0, rfl, by omega, by unfold off; rw [List.drop_zero]; split <;> omega, rfl, rfl⟩ ?_)
      rintro n _ _ ⟨i, rfl, hi, hno, rfl, rfl⟩
      have hgi := hg i (by omega)
      obtain ⟨rz, pz, vz, hix, hld⟩ := ls_ix hw (i := i) (by omega)
      obtain ⟨ry, py, vy, hiy, hldy⟩ := ls_ix hw (i := i + reachS l.length r) (by omega)
      have c1 := sh_g hbs (i := i) (by omega)
      have c2 := sh_g hbs (i := i + reachS l.length r) (by omega)
      generalize hf : reachS l.length r = f at *
      rw [show ((i + f : Nat) : Int) = (i : Int) + f by omega] at hiy
      refine L_regQ mixed [0, 1, 6, 8, 9, 42] (by kernel_rfl) (fun K hK => ?_)
      simp [okFn_low]
      refine exQ_mk (fun Q hQ => reachR_ac v l r H1 Q hv1 (by rw [hf]; exact hQ)) ?_
      simp [hix, hld, hiy, hldy, wrap_i64 (a := (i : Int) + f) (by omega), ← hgi, wrap_i64 (a := g R i) (by omega)]
      apply hK; clear hK K
      refine L_dec (g R i < m) rfl (fun hlt => ?_) (fun hge => L_exit ?_)
      · refine L_block ?_
        refine L_reg [0, 1, 6, 8, 9] (fun K hK => ?_)
        simp [wrap_i64 (a := (i : Int) + 1) (by omega)]
        apply hK; clear hK K
        have hne : g R i ≠ m := by omega
        rw [off_step hi hne] at hno
        refine ⟨R.length - (i + 1), [.int .i64 (i + 1 : Nat)], by omega, by simp, i + 1, rfl, ?_, hno, rfl, rfl⟩
        apply Classical.byContradiction
        intro hh
        rw [List.drop_eq_nil_of_le (by omega), idx_nilI] at hno
        unfold off at hno
        simp at hno
        omega
      · have he : g R i = m := by have := hle i hi; omega
        rw [idx_here hi he] at hno
        have e3 : off i 0 = i := by unfold off; rw [if_neg (by omega)]; omega
        rw [e3] at hno
        rw [← hno] at h
        refine L_reg [4, 5] (fun K hK => ?_)
        simp
        apply hK; clear hK K
        exact L_ret ⟨.inr rfl, _, rfl, h _ hE⟩
  · rw [if_neg h0, if_neg h0] at h
    have h0b : (shE l == 0) = false := by simpa using h0
    refine L_reg [0, 1, 6, 7, 22] (fun K hK => ?_)
    simp [h0b, pickV]
    apply hK; clear hK K
    refine L_false rfl ?_
    refine L_reg [0, 1, 6, 7, 24] (fun K hK => ?_)
    simp
    apply hK; clear hK K
    refine L_true (by simp [h0]) ?_
    refine L_reg [4, 5] (fun K hK => ?_)
    simp
    apply hK; clear hK K
    exact L_ret ⟨.inr rfl, _, rfl, h _ (.refl _)⟩
set_option maxRecDepth 100000 in
theorem ProvesR_ac (v : AV) (l : List Int) (r : Bool) (i s : Int) (H : AH) (Q : AV → AH → Prop) (hlen : l.length ≤ 1000) (hv : Ls H v l) (h : Q (.int .i64 (provE l r i s)) H) : AC Try.prog 23 [v, .bool r, .int .i64 i, .int .i64 s] H Q := by
  refine AC.quiet (belB_int _ _ _ _) (fun Q h => ?_) Q h
  have hl := ls_len hv
  refine L_body 43 Try.func23 rfl rfl ?_
  refine L_reg [0, 1, 2, 3] (fun K hK => ?_)
  simp
  apply hK; clear hK K
  refine L_reg [0, 1, 2, 3, 9] (fun K hK => ?_)
  simp [okFn_low]
  refine CheckR_ac v l _ _ (by omega) hv ?_
  simp
  apply hK; clear hK K
  refine L_reg [0, 1, 2, 3, 9, 15] (fun K hK => ?_)
  simp
  apply hK; clear hK K
  unfold provE at h
  by_cases h0 : shE l = 0
  · obtain ⟨b1, b2, b3⟩ := Bd.ok h0
    rw [if_pos h0] at h
    refine L_false (by simp [h0]) ?_
    obtain ⟨hr1, hr2⟩ := reach_le b1 r
    refine L_reg [0, 2, 3, 10] (fun K hK => ?_)
    simp [okFn_low]
    refine reachR_ac v l r _ _ hv ?_
    simp
    apply hK; clear hK K
    have hsh := (shE_ok h0).2.2
    have hbs := b3.perm (srt_perm l)
    have hsl := srt_len l
    have hrl := rsS_len r l
    have hg : ∀ i, i < l.length - reachS l.length r → g (rsS r l) i = g (srt l) (i + reachS l.length r) - g (srt l) i := fun i hi => g_rs hi
    generalize hf : reachS l.length r = f at *
    generalize rsS r l = R at *
    refine L_reg [0, 2, 3, 10, 27] (fun K hK => ?_)
    simp [okFn_low, hl, wrap_i64 (a := (l.length : Int) - 1) (by omega), wrap_i64 (a := (l.length : Int) - 1 - f) (by omega)]
    refine in_ac _ _ _ _ _ ?_
    simp
    apply hK; clear hK K
    by_cases c1 : 0 ≤ i ∧ i < R.length
    · rw [if_pos c1] at h
      refine L_false (by simp; omega) ?_
      obtain ⟨k, rfl⟩ : ∃ k : Nat, i = k := ⟨i.toNat, by omega⟩
      simp only [Int.toNat_natCast] at h
      refine L_reg [2, 3, 10, 11] (fun K hK => ?_)
      simp [okFn_low]
      refine sortedR_ac v l _ _ hlen hv (fun w H1 hO hE => ?_)
      simp
      apply hK; clear hK K
      rw [srtR_eq hsh] at hO
      have hw := hO.own.ls
      have hgi := hg k (by omega)
      obtain ⟨rz, pz, vz, hix, hld⟩ := ls_ix hw (i := k) (by omega)
      obtain ⟨ry, py, vy, hiy, hldy⟩ := ls_ix hw (i := k + f) (by omega)
      have d1 := sh_g hbs (i := k) (by omega)
      have d2 := sh_g hbs (i := k + f) (by omega)
      rw [show ((k + f : Nat) : Int) = (k : Int) + f by omega] at hiy
      refine L_regT mixed [42] (by kernel_rfl) (fun K hK => ?_)
      simp [hix, hld, hiy, hldy, wrap_i64 (a := (k : Int) + f) (by omega), ← hgi, wrap_i64 (a := g R k) (by omega)]
      apply hK; clear hK K
      refine L_dec (g R k < s) rfl (fun c3 => ?_) (fun c3 => ?_)
      · rw [if_pos c3] at h
        refine L_reg [8] (fun K hK => ?_)
        simp
        apply hK; clear hK K
        exact L_ret ⟨.inr rfl, _, rfl, h H1 hE⟩
      · rw [if_neg c3] at h
        refine L_reg [8] (fun K hK => ?_)
        simp
        apply hK; clear hK K
        exact L_ret ⟨.inr rfl, _, rfl, h H1 hE⟩
    · rw [if_neg c1] at h
      refine L_true (by simp; omega) ?_
      refine L_reg [8] (fun K hK => ?_)
      simp
      apply hK; clear hK K
      exact L_ret ⟨.inr rfl, _, rfl, h _ (.refl _)⟩
  · rw [if_neg h0] at h
    refine L_true (by simp [h0]) ?_
    refine L_reg [8] (fun K hK => ?_)
    simp
    apply hK; clear hK K
    exact L_ret ⟨.inr rfl, _, rfl, h _ (.refl _)⟩
end Go.Proofs.Ytpfkioakjmpimaa

/- Whether an order turns, as the program and as the reference tell. -/
namespace Go.Proofs.Ytpfkioakjmpimaa
open Go Go.Proofs.Ytpfkioakjmpimaa.AX

def altAt (l : List Int) (i : Nat) : Bool := if i % 2 = 0 then decide (g l i < g l (i + 1)) else decide (g l (i + 1) < g l i)
/-- Greater and smaller by turns. -/
def altB (l : List Int) : Bool := (List.range (l.length - 1)).all (altAt l)
theorem altB_iff {l : List Int} : altB l = true ↔ ∀ i, i + 1 < l.length → altAt l i = true := by
  unfold altB
  rw [List.all_eq_true]
  exact ⟨fun h i hi => h i (List.mem_range.2 (by omega)), fun h i hi => h i (by rw [List.mem_range] at hi; omega)⟩
theorem altB_no {l : List Int} {i : Nat} (hi : i + 1 < l.length) (h : altAt l i = false) : altB l = false := by
  cases hb : altB l with
  | false => rfl
  | true => rw [altB_iff.1 hb i hi] at h; cases h
def cmpI (a b : Int) : Int := if a < b then -1 else if b < a then 1 else 0
theorem Compare_ac (a b : Int) (H : AH) (Q : AV → AH → Prop) (h : Q (.int .i64 (cmpI a b)) H) : AC Try.prog 102 [.int .i64 a, .int .i64 b] H Q := by
  refine L_body 20 Try.func102 rfl rfl ?_
  unfold cmpI at h
  refine L_reg [0, 1] (fun K hK => ?_)
  simp
  apply hK; clear hK K
  refine L_reg [0, 1, 5] (fun K hK => ?_)
  simp [okFn_low]
  refine isNaN_ac a _ _ ?_
  simp
  apply hK; clear hK K
  refine L_reg [0, 1, 5, 6] (fun K hK => ?_)
  simp [okFn_low]
  refine isNaN_ac b _ _ ?_
  simp
  apply hK; clear hK K
  refine L_reg [0, 1, 6, 11] (fun K hK => ?_)
  simp
  apply hK; clear hK K
  refine L_false rfl ?_
  refine L_reg [0, 1, 13] (fun K hK => ?_)
  simp
  apply hK; clear hK K
  refine L_false rfl ?_
  refine L_reg [0, 1, 16] (fun K hK => ?_)
  simp
  apply hK; clear hK K
  refine L_dec (a < b) rfl (fun h1 => ?_) (fun h1 => ?_)
  · rw [if_pos h1] at h
    refine L_reg [4] (fun K hK => ?_)
    simp
    apply hK; clear hK K
    exact L_ret ⟨.inr rfl, _, rfl, h⟩
  · rw [if_neg h1] at h
    refine L_reg [19] (fun K hK => ?_)
    simp
    apply hK; clear hK K
    refine L_dec (b < a) rfl (fun h2 => ?_) (fun h2 => ?_)
    · rw [if_pos h2] at h
      refine L_reg [4] (fun K hK => ?_)
      simp
      apply hK; clear hK K
      exact L_ret ⟨.inr rfl, _, rfl, h⟩
    · rw [if_neg h2] at h
      refine L_reg [4] (fun K hK => ?_)
      simp
      apply hK; clear hK K
      exact L_ret ⟨.inr rfl, _, rfl, h⟩
def wantI (k : Nat) : Int := if k % 2 = 0 then -1 else 1
theorem want_next (k : Nat) : -wantI k = wantI (k + 1) := by
  unfold wantI
  by_cases h : k % 2 = 0
  · rw [if_pos h, if_neg (by omega)]; rfl
  · rw [if_neg h, if_pos (by omega)]
theorem want_alt {l : List Int} {k : Nat} : altAt l k = decide (cmpI (g l k) (g l (k + 1)) = wantI k) := by
  unfold altAt cmpI wantI
  by_cases h : k % 2 = 0
  · rw [if_pos h, if_pos h]
    apply decide_eq_decide.2
    split <;> (try split) <;> omega
  · rw [if_neg h, if_neg h]
    apply decide_eq_decide.2
    split <;> (try split) <;> omega
theorem cmpI_small (a b : Int) : -1 ≤ cmpI a b ∧ cmpI a b ≤ 1 := by unfold cmpI; split <;> (try split) <;> omega
theorem wantI_small (k : Nat) : -1 ≤ wantI k ∧ wantI k ≤ 1 := by unfold wantI; split <;> omega
set_option maxRecDepth 100000 in
theorem turns_ac (v : AV) (l : List Int) (H : AH) (Q : AV → AH → Prop) (hlen : l.length ≤ 1000000) (hv : Ls H v l) (h : Q (.bool (altB l)) H) : AC Try.prog 76 [v] H Q := by
  refine AC.quiet (by simp [belB]) (fun Q h => ?_) Q h
  obtain ⟨r0, off0, ver0, sz0, full0, hv0, -⟩ := id hv
  refine L_body 17 Try.func76 rfl rfl ?_
  refine L_reg [0, 2, 4, 5] (fun K hK => ?_)
  simp [alloc_z zt4]
  apply hK; clear hK K
  obtain ⟨I, hI, hz⟩ := zeroT_some zt3
  have hst := store_last (P := Try.prog) (H := H ++ [AObj.row [.bool false] 0 0 false]) (u := 3) (c := [.int .i64 0]) (p := 0) (v := 0) (s := 0) sc3 (x := .int .i64 (-1)) (y := .int .i64 0) rfl rfl
  simp at hst
  refine L_reg [0, 2, 3, 4, 5] (fun K hK => ?_)
  simp [hI, hz, hst]
  apply hK; clear hK K
  have z0 : (H ++ [AObj.row [.bool false] 0 0 false, AObj.row [.int .i64 (-1)] 0 0 false]).length = H.length + 2 := by simp
  have z1 : (H ++ [AObj.row [.bool false] 0 0 false, AObj.row [.int .i64 (-1)] 0 0 false])[H.length]? = some (.row [.bool false] 0 0 false) := by simp
  have z2 : (H ++ [AObj.row [.bool false] 0 0 false, AObj.row [.int .i64 (-1)] 0 0 false])[H.length + 1]? = some (.row [.int .i64 (-1)] 0 0 false) := by simp
  have zE : Ext H (H ++ [AObj.row [.bool false] 0 0 false, AObj.row [.int .i64 (-1)] 0 0 false]) := .push _ _
  generalize H ++ [AObj.row [.bool false] 0 0 false, AObj.row [.int .i64 (-1)] 0 0 false] = Ha at z0 z1 z2 zE ⊢
  rw [hv0]
  refine L_reg [2, 3, 4, 5, 7] (fun K hK => ?_)
  simp [okFn_low]
  refine nbs_ac r0 off0 l.length ver0 sz0 full0 false _ _ ?_
  simp
  apply hK; clear hK K
  rw [← hv0]
  have y1 : (Ha ++ [AObj.row [v] 0 0 false, AObj.row [AV.bool false] 0 0 false])[H.length + 2]? = some (.row [v] 0 0 false) := by rw [← z0]; simp
  have y2 : (Ha ++ [AObj.row [v] 0 0 false, AObj.row [AV.bool false] 0 0 false])[H.length + 3]? = some (.row [.bool false] 0 0 false) := by rw [show H.length + 3 = Ha.length + 1 by omega]; simp
  have yE : Ext Ha (Ha ++ [AObj.row [v] 0 0 false, AObj.row [AV.bool false] 0 0 false]) := .push _ _
  have yl : (Ha ++ [AObj.row [v] 0 0 false, AObj.row [AV.bool false] 0 0 false]).length = H.length + 4 := by simp [z0]
  have z1 := yE.row z1
  have z2 := yE.row z2
  have zE := zE.trans yE
  generalize Ha ++ [AObj.row [v] 0 0 false, AObj.row [AV.bool false] 0 0 false] = H1 at y1 y2 yE yl z1 z2 zE ⊢
  rw [z0]
  refine L_block (L_range [2, 3] rfl (okFn_low (by omega) (by omega)) ?_)
  generalize hL : (⟨17, _, _, _, _⟩ : LR) = L
  have hnt : L.nt = 17 := by rw [← hL]
  have hps : L.ps = #[8, 9] := by rw [← hL]
  have hass := congrArg LR.assign hL.symm
  have he : L.e = [(2, .ptr H.length 0 0), (3, .ptr (H.length + 1) 0 0)] := by rw [← hL]; rfl
  have hbody := congrArg LR.body hL.symm
  clear hL
  rw [yl]
  generalize hp : H.length = p at *
  have hpl : (prs false l).length = l.length - 1 := prs_lenF (by simp)
  refine nb1_ac (p + 4) (p + 2) (p + 3) v l false (fun k H' => p + 5 ≤ H'.length ∧ H'[p + 2]? = some (.row [v] 0 0 false) ∧ H'[p + 3]? = some (.row [.bool false] 0 0 false) ∧ H'[p + 4]? = some (.loop .ready .normal L) ∧ Ext H H' ∧
      (∃ s, H'[p]? = some (.row [.bool false] 0 s false)) ∧ (∃ s, H'[p + 1]? = some (.row [.int .i64 (wantI k)] 0 s false)) ∧ ∀ i, i < k → altAt l i = true)
      (fun H' => altB l = false ∧ H'[p + 4]? = some (.loop .done .ret L) ∧ Ext H H' ∧ ∃ s, H'[p]? = some (.row [.bool false] 0 s false)) _ _ hlen ?_ ?_ ?_ ?_ ?_
  · rintro k H2 ⟨g0, g1, g2, g3, gE, -⟩
    exact ⟨⟨_, g1⟩, ⟨_, g2⟩, hv.ext gE⟩
  · rintro k a b H2 hk ⟨g0, g1, g2, g3, gE, ⟨s4, g4⟩, ⟨s5, g5⟩, g6⟩
    have hkl : k < l.length - 1 := by rw [← hpl]; exact (List.getElem?_eq_some_iff.1 hk).1
    have hab := prs_at (r := false) (l := l) (i := k) (by omega)
    rw [hk] at hab
    cases hab
    refine AYld_mkA g3 (by rw [hps]; rfl) (by rw [hps, hnt]; simp) ?_
    rw [hnt, hps, he, hass]
    refine L_reg [2, 3, 4, 9] (fun K hK => ?_)
    simp [psEnv]
    apply hK; clear hK K
    refine L_reg [2, 3, 4, 5] (fun K hK => ?_)
    simp
    apply hK; clear hK K
    refine ⟨rfl, .normal, L, g3, ?_⟩
    rw [hbody]
    generalize hH2b : H2.set (p + 4) (.loop .busy .normal L) = H2b
    have bl : H2b.length = H2.length := by rw [← hH2b]; simp
    have b4 : H2b[p]? = some (.row [.bool false] 0 s4 false) := by rw [← hH2b, set_ne (by omega)]; exact g4
    have b5 : H2b[p + 1]? = some (.row [.int .i64 (wantI k)] 0 s5 false) := by rw [← hH2b, set_ne (by omega)]; exact g5
    have bL : H2b[p + 4]? = some (.loop .busy .normal L) := by rw [← hH2b, List.getElem?_set_self (by omega)]
    have c1 : H2b[p + 2]? = some (.row [v] 0 0 false) := by rw [← hH2b, set_ne (by omega)]; exact g1
    have c2 : H2b[p + 3]? = some (.row [.bool false] 0 0 false) := by rw [← hH2b, set_ne (by omega)]; exact g2
    have bE : Ext H H2b := by rw [← hH2b]; exact gE.set _ (by omega)
    have e5 : ld H2b (p + 1) 0 0 = some (.int .i64 (wantI k)) := by rw [ld_row b5]; rfl
    have hwa := want_alt (l := l) (k := k)
    have hws := wantI_small k
    refine L_block ?_
    refine L_regQ mixed [2, 3, 14] (by kernel_rfl) (fun K hK => ?_)
    simp [okFn_low]
    refine exQ_mk (fun Q hQ => Compare_ac (g l k) (g l (k + 1)) H2b Q hQ) ?_
    simp [e5]
    apply hK; clear hK K
    by_cases hc : cmpI (g l k) (g l (k + 1)) = wantI k
    · refine L_false (by simp [hc]) ?_
      have hst2 := store_row (P := Try.prog) (u := 3) (p := 0) sc3 (x := .int .i64 (wantI (k + 1))) (y := .int .i64 (wantI k)) rfl b5 rfl
      have hws2 := wantI_small (k + 1)
      refine L_reg [] (fun K hK => ?_)
      simp [e5, want_next, wrap_i64 (a := wantI (k + 1)) (by omega), hst2]
      apply hK; clear hK K
      refine ⟨.busy, .normal, L, by rw [set_ne (by omega)]; exact bL, true, rfl, ?_⟩
      simp only [if_true]
      refine ⟨by simp; omega, ?_, ?_, ?_, ?_, ⟨s4, ?_⟩, ⟨0, ?_⟩, fun i hi => ?_⟩
      · rw [set_ne (by omega), set_ne (by omega)]; exact c1
      · rw [set_ne (by omega), set_ne (by omega)]; exact c2
      · rw [List.getElem?_set_self (by simp; omega)]
      · exact (bE.set _ (by omega)).set _ (by omega)
      · rw [set_ne (by omega), set_ne (by omega)]; exact b4
      · rw [set_ne (by omega), get_set b5]
      · rcases Nat.lt_or_ge i k with e | e
        · exact g6 i e
        · rw [show i = k by omega, hwa]; simp [hc]
    · refine L_true (by simp [hc]) ?_
      have hst2 := store_row (P := Try.prog) (u := 4) (p := 0) sc4 (x := .bool false) (y := .bool false) rfl b4 rfl
      refine L_reg [2] (fun K hK => ?_)
      simp [hst2]
      apply hK; clear hK K
      refine L_ret ⟨.busy, .normal, L, by rw [set_ne (by omega)]; exact bL, false, rfl, ?_⟩
      refine ⟨altB_no (i := k) (by omega) (by rw [hwa]; simpa using hc), ?_, ?_, ?_⟩
      · rw [List.getElem?_set_self (by simp; omega)]; rfl
      · exact (bE.set _ (by omega)).set _ (by omega)
      · exact ⟨_, by rw [set_ne (by omega), get_set b4]⟩
  · have hin : ∀ j, j < H1.length → (H1 ++ [AObj.loop .ready .normal L])[j]? = H1[j]? := fun j hj => List.getElem?_append_left hj
    refine ⟨by simp; omega, ?_, ?_, by rw [← yl]; simp, zE.trans (.push _ _), ⟨0, ?_⟩, ⟨0, ?_⟩, fun i hi => by omega⟩
    · rw [hin _ (by omega)]; exact y1
    · rw [hin _ (by omega)]; exact y2
    · rw [hin _ (by omega)]; exact z1
    · rw [hin _ (by omega)]; exact z2
  · rintro H2 ⟨g0, g1, g2, g3, gE, ⟨s4, g4⟩, ⟨s5, g5⟩, g6⟩
    refine ⟨.ready, .normal, L, g3, by simp, ?_⟩
    have b4 : (H2.set (p + 4) (.loop .exhausted .normal L))[p]? = some (.row [.bool false] 0 s4 false) := by rw [set_ne (by omega)]; exact g4
    have hst2 := store_row (P := Try.prog) (u := 4) (p := 0) sc4 (x := .bool true) (y := .bool false) rfl b4 rfl
    have halt : altB l = true := altB_iff.2 fun i hi => g6 i (by rw [hpl]; omega)
    rw [halt] at h
    show AWL _ _ _ _ _ _
    refine L_reg [2] (fun K hK => ?_)
    simp [hst2]
    apply hK; clear hK K
    have b6 := get_set (o' := AObj.row [.bool true] 0 0 false) b4
    refine L_ret ⟨.inr rfl, .bool true, ?_, h _ ((gE.set _ (by omega)).set _ (by omega))⟩
    have h1 : aRes1 Try.prog [(2, AV.ptr p 0 0)] ((H2.set (p + 4) (.loop .exhausted .normal L)).set p (AObj.row [.bool true] 0 0 false)) (.cell 2 4) = some (.bool true) := by
      show loadV Try.prog 4 _ (.ptr p 0 0) = _
      rw [ld4, ld_row b6]; rfl
    show (aResList Try.prog _ _ [.cell 2 4]).map _ = some _
    simp only [aResList]
    rw [h1]; rfl
  · rintro H2 ⟨g0, g1, gE, s4, g4⟩
    rw [g0] at h
    refine ⟨.done, .ret, L, g1, by simp, ?_⟩
    have b4 : (H2.set (p + 4) (.loop .exhausted .ret L))[p]? = some (.row [.bool false] 0 s4 false) := by rw [set_ne (by omega)]; exact g4
    refine ⟨.inr rfl, .bool false, ?_, h _ (gE.set _ (by omega))⟩
    have h1 : ∀ e : Env, eget e 2 = .ptr p 0 0 → aRes1 Try.prog e (H2.set (p + 4) (.loop .exhausted .ret L)) (.cell 2 4) = some (.bool false) := fun e he => by
      show loadV Try.prog 4 _ (eget e 2) = _
      rw [he, ld4, ld_row b4]; rfl
    show (aResList Try.prog _ _ [.cell 2 4]).map _ = some _
    simp only [aResList]
    rw [h1 _ rfl]; rfl
end Go.Proofs.Ytpfkioakjmpimaa

/- The examples that each law ends with. -/
namespace Go.Proofs.Ytpfkioakjmpimaa
open Go Go.Proofs.Ytpfkioakjmpimaa.AX

noncomputable def forceL {α : Type} : List Int → (List Int → α) → α
  | [], k => k []
  | x :: l, k => forceI x fun x => forceL l fun l => k (x :: l)
theorem forceL_eq {α : Type} : ∀ (l : List Int) (k : List Int → α), forceL l k = k l
  | [], _ => rfl
  | x :: l, k => by simp only [forceL, forceI_eq, forceL_eq l]
/-- The best one, reckoned at once. -/
noncomputable def qb (c : List Int → Int) : List (List Int) → Int → List Int → List Int
  | [], _, b => b
  | p :: L, cb, b => forceL p fun p => forceI (c p) fun cp => bif decide (cb < cp) then qb c L cb b else bif decide (cp < cb) then qb c L cp p else bif decide (Arr.le b p) then qb c L cb b else qb c L cp p
theorem qb_eq (c : List Int → Int) : ∀ (L : List (List Int)) (b : List Int), qb c L (c b) b = L.foldl (Arr.pick c) b
  | [], b => rfl
  | p :: L, b => by
    have hpk : Arr.pick c b p = if Arr.bet c b p then b else p := rfl
    simp only [qb, forceL_eq, forceI_eq, List.foldl_cons]
    rw [hpk]
    by_cases h1 : c b < c p
    · rw [if_pos (.inl h1)]
      simp [h1, qb_eq c L b]
    · by_cases h2 : c p < c b
      · rw [if_neg (fun h => by rcases h with h | ⟨h, -⟩ <;> omega)]
        simp [h1, h2, qb_eq c L p]
      · by_cases h3 : Arr.le b p
        · rw [if_pos (.inr ⟨by omega, h3⟩)]
          simp [h1, h2, h3, qb_eq c L b]
        · rw [if_neg (fun h => by
            rcases h with h | ⟨-, h⟩
            · omega
            · exact h3 h)]
          simp [h1, h2, h3, qb_eq c L p]
noncomputable def bestQ (c : List Int → Int) (l : List Int) : List Int := forceI (c l) fun x => qb c (Arr.perms l) x l
theorem bestQ_eq (c : List Int → Int) (l : List Int) : bestQ c l = Arr.bestS c l := by
  unfold bestQ Arr.bestS
  rw [forceI_eq, qb_eq]
def readI : List AV → Option (List Int)
  | [] => some []
  | .int .i64 a :: rest => match readI rest with
    | some l => some (a :: l)
    | none => none
  | _ => none
theorem readI_get : ∀ {vs : List AV} {l : List Int}, readI vs = some l → vs = l.map (.int .i64)
  | [], l, h => by simp [readI] at h; subst h; rfl
  | v :: vs, l, h => by
    unfold readI at h
    split at h
    case h_1 => rename_i h0; cases h0
    case h_3 => cases h
    rename_i a rest heq
    cases heq
    split at h
    case h_2 => cases h
    rename_i l' hl
    cases h
    rw [readI_get hl]; rfl
noncomputable def boxX (args : List AV) (H : AH) : Option (AV × AH) := match args with
  | [.slice (some r) off len ver sz _, .func (.func f) [] [.ptr pr 0 0]] =>
    match ldn H r ver len off, H[pr]? with
    | some vs, some (.row [.bool b] 0 _ false) => match readI vs with
      | some l => bif Nat.beq sz 1 && Nat.ble 1 len && Nat.ble len 127 && l.all (fun x => decide (-1000 ≤ x) && decide (x ≤ 1000)) then
          bif Nat.beq f 71 then forceL (bestQ (stepC b) l) fun m => forceN H.length fun n => some (.slice (some n) 0 len 0 1 false, H ++ [.row (m.map (.int .i64)) 0 len false])
          else bif Nat.beq f 100 then forceL (bestQ (fun p => -sumC b p) l) fun m => forceN H.length fun n => some (.slice (some n) 0 len 0 1 false, H ++ [.row (m.map (.int .i64)) 0 len false]) else none
        else none
      | none => none
    | _, _ => none
  | _ => none
theorem boxX_ok {args : List AV} {H : AH} {v : AV} {H' : AH} (h : boxX args H = some (v, H')) : AC Try.prog 70 args H fun v' H2 => v' = v ∧ H2 = H' := by
  unfold boxX at h
  split at h
  case h_2 => cases h
  rename_i r off len ver sz full f pr
  split at h
  case h_2 => cases h
  rename_i vs b st hvs hb
  split at h
  case h_2 => cases h
  rename_i l hl
  cases hc : (Nat.beq sz 1 && Nat.ble 1 len && Nat.ble len 127 && l.all (fun x => decide (-1000 ≤ x) && decide (x ≤ 1000))) with
  | false => rw [hc] at h; cases h
  | true =>
    rw [hc, cond_true] at h
    simp only [Bool.and_eq_true, List.all_eq_true, decide_eq_true_eq] at hc
    obtain ⟨⟨⟨h0, h1⟩, h2⟩, h3⟩ := hc
    obtain rfl := Nat.eq_of_beq_eq_true h0
    have h1 := Nat.le_of_ble_eq_true h1
    have h2 := Nat.le_of_ble_eq_true h2
    have hvl := (ldn_part hvs).1
    have hv := readI_get hl
    have hll : l.length = len := by rw [← hvl, hv]; simp
    have hbd : Bd 1000 l := fun x hx => h3 x hx
    have hL : Ls H (.slice (some r) off len ver 1 full) l := by
      refine ⟨some r, off, ver, 1, full, by rw [hll], fun i hi => ⟨r, rfl, rfl, ?_⟩⟩
      have := (ldn_part hvs).2 i 1 (by omega)
      rw [hv] at this
      have e : ((l.map (AV.int .i64)).drop i).take 1 = [.int .i64 l[i]] := by
        rw [List.drop_eq_getElem_cons (by simpa using hi)]
        simp
      rw [e, ldn_succ] at this
      cases hx : ld H r (off + i) ver with
      | none => rw [hx] at this; cases this
      | some y => rw [hx] at this; simp [ldn_zero] at this; rw [this]
    have fin : ∀ (g : FuncId) (cost : List Int → Int), okFn Try.prog g = true → (∀ (H' : AH) (v' : AV) (p : List Int) (Q : AV → AH → Prop), Ext H H' → p.Perm l → Ls H' v' p → Q (.int .i64 (cost p)) H' → AC Try.prog g (v' :: [.ptr pr 0 0]) H' Q) →
        (forceL (bestQ cost l) fun m => forceN H.length fun n => some (AV.slice (some n) 0 len 0 1 false, H ++ [AObj.row (m.map (.int .i64)) 0 len false])) = some (v, H') →
        AC Try.prog 70 [.slice (some r) off len ver 1 full, .func (.func g) [] [.ptr pr 0 0]] H fun v' H2 => v' = v ∧ H2 = H' := by
      intro g cost hok hC h
      rw [forceL_eq, forceN_eq, bestQ_eq] at h
      have hp := (Arr.best_is cost l).1
      have hpl := hp.length_eq
      cases h
      refine AC.tidy (l := (Arr.bestS cost l).map (.int .i64)) (fun e => ?_) (belB_ints _ _) (fun Q hQ => cheapest_ac _ l g [.ptr pr 0 0] cost H Q (by omega) (by omega) hL hok hC hQ) _ ?_
      · have : (Arr.bestS cost l).length = 0 := by simpa using congrArg List.length e
        omega
      · rw [List.length_map, hpl, hll]; exact ⟨rfl, rfl⟩
    cases hf : Nat.beq f 71 with
    | true =>
      rw [hf, cond_true] at h
      obtain rfl := Nat.eq_of_beq_eq_true hf
      exact fin 71 (stepC b) (okFn_low (by omega) (by omega)) (fun H' v' p Q hE2 hp2 hv2 hQ => boxC_ac pr b v' p H' Q ⟨st, hE2.row hb⟩ (by have := hp2.length_eq; omega) (hbd.perm hp2) hv2 hQ) h
    | false =>
      rw [hf, cond_false] at h
      cases hf2 : Nat.beq f 100 with
      | true =>
        rw [hf2, cond_true] at h
        obtain rfl := Nat.eq_of_beq_eq_true hf2
        exact fin 100 (fun p => -sumC b p) (okFn_low (by omega) (by omega)) (fun H' v' p Q hE2 hp2 hv2 hQ => wideC_ac pr b v' p H' Q ⟨st, hE2.row hb⟩ (by have := hp2.length_eq; omega) (hbd.perm hp2) hv2 hQ) h
      | false => rw [hf2] at h; cases h
/-- A list read off its row. -/
noncomputable def readL (v : AV) (H : AH) : Option (List Int) := match v with
  | .slice (some r) off len ver sz _ => bif Nat.beq sz 1 && Nat.ble len 1000 then (match ldn H r ver len off with
    | some vs => match readI vs with
      | some l => bif l.all (fun x => decide (-1000 ≤ x) && decide (x ≤ 1000)) then some l else none
      | none => none
    | none => none) else none
  | _ => none
theorem readL_ok {v : AV} {H : AH} {l : List Int} (h : readL v H = some l) : Ls H v l ∧ l.length ≤ 1000 ∧ Bd 1000 l := by
  unfold readL at h
  split at h
  case h_2 => cases h
  rename_i r off len ver sz full
  cases hc : (Nat.beq sz 1 && Nat.ble len 1000) with
  | false => rw [hc] at h; cases h
  | true =>
    rw [hc, cond_true] at h
    simp only [Bool.and_eq_true] at hc
    obtain rfl := Nat.eq_of_beq_eq_true hc.1
    have h2 := Nat.le_of_ble_eq_true hc.2
    split at h
    case h_2 => cases h
    rename_i vs hvs
    split at h
    case h_2 => cases h
    rename_i m hl
    cases hb : m.all (fun x => decide (-1000 ≤ x) && decide (x ≤ 1000)) with
    | false => rw [hb] at h; cases h
    | true =>
      rw [hb, cond_true] at h
      cases h
      simp only [List.all_eq_true, Bool.and_eq_true, decide_eq_true_eq] at hb
      have hvl := (ldn_part hvs).1
      have hv := readI_get hl
      have hll : l.length = len := by rw [← hvl, hv]; simp
      refine ⟨⟨some r, off, ver, 1, full, by rw [hll], fun i hi => ⟨r, rfl, rfl, ?_⟩⟩, by omega, fun x hx => hb x hx⟩
      have := (ldn_part hvs).2 i 1 (by omega)
      rw [hv] at this
      have e : ((l.map (AV.int .i64)).drop i).take 1 = [.int .i64 l[i]] := by
        rw [List.drop_eq_getElem_cons (by simpa using hi)]
        simp
      rw [e, ldn_succ] at this
      cases hx : ld H r (off + i) ver with
      | none => rw [hx] at this; cases this
      | some y => rw [hx] at this; simp [ldn_zero] at this; rw [this]
noncomputable def forceB {α : Type} (b : Bool) (k : Bool → α) : α := Bool.rec (k false) (k true) b
theorem forceB_eq {α : Type} (b : Bool) (k : Bool → α) : forceB b k = k b := by cases b <;> rfl
noncomputable def stepX (c : Bool → List Int → Int) (args : List AV) (H : AH) : Option (AV × AH) := match args with
  | [v, .bool b] => match readL v H with
    | some l => forceI (c b l) fun x => some (.int .i64 x, H)
    | none => none
  | _ => none
theorem stepX_ok {f : FuncId} {c : Bool → List Int → Int} (hC : ∀ (v : AV) (l : List Int) (r : Bool) (H : AH) (Q : AV → AH → Prop), l.length ≤ 1000000 → Bd 1000 l → Ls H v l → Q (.int .i64 (c r l)) H → AC Try.prog f [v, .bool r] H Q) {args : List AV} {H : AH} {v : AV} {H' : AH} (h : stepX c args H = some (v, H')) : AC Try.prog f args H fun v' H2 => v' = v ∧ H2 = H' := by
  unfold stepX at h
  split at h
  case h_2 => cases h
  rename_i u b
  split at h
  case h_2 => cases h
  rename_i l hl
  rw [forceI_eq] at h
  cases h
  obtain ⟨h1, h2, h3⟩ := readL_ok hl
  exact hC u l b H _ (by omega) h3 h1 ⟨rfl, rfl⟩
noncomputable def turnX (args : List AV) (H : AH) : Option (AV × AH) := match args with
  | [v] => match readL v H with
    | some l => forceB (altB l) fun x => some (.bool x, H)
    | none => none
  | _ => none
theorem turnX_ok {args : List AV} {H : AH} {v : AV} {H' : AH} (h : turnX args H = some (v, H')) : AC Try.prog 76 args H fun v' H2 => v' = v ∧ H2 = H' := by
  unfold turnX at h
  split at h
  case h_2 => cases h
  rename_i u
  split at h
  case h_2 => cases h
  rename_i l hl
  rw [forceB_eq] at h
  cases h
  obtain ⟨h1, h2, h3⟩ := readL_ok hl
  exact turns_ac u l H _ (by omega) h1 ⟨rfl, rfl⟩
noncomputable def extB (f : FuncId) (args : List AV) (H : AH) : Option (AV × AH) :=
  bif Nat.beq f 70 then boxX args H else bif Nat.beq f 59 then stepX stepC args H else bif Nat.beq f 61 then stepX sumC args H else bif Nat.beq f 76 then turnX args H else none
theorem extB_ok {f : FuncId} {args : List AV} {H : AH} {v : AV} {H' : AH} (h : extB f args H = some (v, H')) : AC Try.prog f args H fun v' H2 => v' = v ∧ H2 = H' := by
  unfold extB at h
  cases h1 : Nat.beq f 70 with
  | true =>
    rw [h1, cond_true] at h
    obtain rfl := Nat.eq_of_beq_eq_true h1
    exact boxX_ok h
  | false =>
    rw [h1, cond_false] at h
    cases h2 : Nat.beq f 59 with
    | true =>
      rw [h2, cond_true] at h
      obtain rfl := Nat.eq_of_beq_eq_true h2
      exact stepX_ok greatest_q h
    | false =>
      rw [h2, cond_false] at h
      cases h3 : Nat.beq f 61 with
      | true =>
        rw [h3, cond_true] at h
        obtain rfl := Nat.eq_of_beq_eq_true h3
        exact stepX_ok sum_q h
      | false =>
        rw [h3, cond_false] at h
        cases h4 : Nat.beq f 76 with
        | true =>
          rw [h4, cond_true] at h
          obtain rfl := Nat.eq_of_beq_eq_true h4
          exact turnX_ok h
        | false => rw [h4, cond_false] at h; cases h
/-- The context in which the cheapest arrangement, steps and turns are reckoned at once. -/
noncomputable def cxb : Cx Try.prog where
  good := goodT
  keep := keepT
  ext := extB
theorem cxb_ok : cxb.Ok where
  mixed := cx_ok.mixed
  ord f h := cx_ok.ord f h
  ext _f _args _H _v _H' h := extB_ok h
end Go.Proofs.Ytpfkioakjmpimaa

/- The examples that each law ends with. -/
namespace Go.Proofs.Ytpfkioakjmpimaa
open Go Go.Proofs.Ytpfkioakjmpimaa.AX
set_option maxRecDepth 100000 in
theorem works_run : callN (runZ cxb 3000) 15 [] [] = some (.bool true, []) := by kernel_rfl
theorem works_ac (H : AH) (Q : AV → AH → Prop) (h : Q (.bool true) H) : AC Try.prog 15 [] H Q := AC_kernZ cxb_ok 3000 works_run .nil (.bool _) h
/-- The same context, in which the examples are known, too. -/
noncomputable def cxw : Cx Try.prog where
  good := goodT
  keep := keepT
  ext f args H := bif Nat.beq f 15 then (match args with | [] => some (.bool true, H) | _ => none) else extB f args H
theorem cxw_ok : cxw.Ok where
  mixed := cx_ok.mixed
  ord f h := cx_ok.ord f h
  ext f args H v H' h := by
    simp only [cxw] at h
    cases hf : Nat.beq f 15 with
    | false =>
      rw [hf, cond_false] at h
      exact cxb_ok.ext f args H v H' h
    | true =>
      have := Nat.eq_of_beq_eq_true hf
      subst this
      rw [hf] at h
      cases args with
      | nil => simp at h; obtain ⟨rfl, rfl⟩ := h; exact works_ac _ _ ⟨rfl, rfl⟩
      | cons a l => simp at h
end Go.Proofs.Ytpfkioakjmpimaa

/- The laws of boxes: steps, least steps and greatest sums are as the reference says. -/
namespace Go.Proofs.Ytpfkioakjmpimaa
open Go Go.Proofs.Ytpfkioakjmpimaa.AX

theorem same_ac (u v : AV) (l m : List Int) (H : AH) (Q : AV → AH → Prop) (hl : l.length ≤ 1048576) (hu : Ls H u l) (hv : Ls H v m) (h : Q (.bool (decide (l = m))) H) : AC Try.prog 30 [u, v] H Q := by
  obtain ⟨r, off, ver, sz, full, rfl, hu⟩ := hu
  obtain ⟨r2, off2, ver2, sz2, full2, rfl, hv⟩ := hv
  refine L_body 26 Try.func30 rfl rfl ?_
  refine L_reg [0, 1] (fun K hK => ?_)
  simp
  apply hK; clear hK K
  refine L_reg [0, 1, 10] (fun K hK => ?_)
  simp
  apply hK; clear hK K
  by_cases hlen : l.length = m.length
  case neg =>
    refine L_true (by simp; omega) ?_
    refine L_reg [4] (fun K hK => ?_)
    simp
    apply hK; clear hK K
    have : l ≠ m := fun e => hlen (by rw [e])
    rw [decide_eq_false this] at h
    exact L_ret ⟨.inr rfl, _, rfl, h⟩
  refine L_false (by simp [hlen]) ?_
  refine L_reg [0, 1, 5] (fun K hK => ?_)
  simp
  apply hK; clear hK K
  refine L_block (L_loopV [5] (fun k vs H' => ∃ (i : Nat), k = l.length - i ∧ i ≤ l.length ∧ (l.drop i = m.drop i → l = m) ∧ vs = [.int .i64 i] ∧ H' = H) _ [.int .i64 (0 : Nat)] rfl ⟨0, rfl, by omega, by simp, rfl, rfl⟩ ?_)
  rintro k _ _ ⟨i, rfl, hi, hs, rfl, rfl⟩
  refine L_reg [0, 1, 5, 14] (fun K hK => ?_)
  simp
  apply hK; clear hK K
  refine L_dec (i < l.length) (by simp) (fun hlt => ?_) (fun hge => L_exit ?_)
  · obtain ⟨r', rfl, rfl, hld⟩ := hu i hlt
    obtain ⟨r3, rfl, rfl, hld2⟩ := hv i (by omega)
    rw [List.drop_eq_getElem_cons hlt, List.drop_eq_getElem_cons (by omega : i < m.length)] at hs
    refine L_block ?_
    refine L_regT mixed [0, 1, 5, 25] (by kernel_rfl) (fun K hK => ?_)
    simp [hlt, ← hlen, hld, hld2]
    apply hK; clear hK K
    by_cases he : l[i] = m[i]
    · refine L_false (by simp [he]) ?_
      rw [he] at hs
      refine L_reg [0, 1, 5] (fun K hK => ?_)
      simp [wrap_i64 (a := (i : Int) + 1) (by omega)]
      apply hK; clear hK K
      exact ⟨l.length - (i + 1), [.int .i64 (i + 1 : Nat)], by omega, by simp [hlen], i + 1, rfl, by omega, fun e => hs (by rw [e]), rfl, rfl⟩
    · refine L_true (by simp [he]) ?_
      refine L_reg [4] (fun K hK => ?_)
      simp
      apply hK; clear hK K
      have : l ≠ m := fun e => he (by subst e; rfl)
      rw [decide_eq_false this] at h
      exact L_ret ⟨.inr rfl, _, rfl, h⟩
  · refine L_reg [4] (fun K hK => ?_)
    simp
    apply hK; clear hK K
    have : l = m := hs (by rw [List.drop_eq_nil_of_le (by omega), List.drop_eq_nil_of_le (by omega)])
    rw [decide_eq_true this] at h
    exact L_ret ⟨.inr rfl, _, rfl, h⟩
theorem shadeSteps_ac (v : AV) (l : List Int) (r : Bool) (i s : Int) (H : AH) (hv : Ls H v l) : AC Try.prog 3 [v, .bool r, .int .i64 i, .int .i64 s] H fun u _ => u = .bool true := by
  have hl := ls_len hv
  refine L_body 86 Try.func3 rfl rfl ?_
  refine L_reg [0, 1, 2, 3] (fun K hK => ?_)
  simp
  apply hK; clear hK K
  refine L_reg [0, 1, 2, 3, 19] (fun K hK => ?_)
  simp [hl]
  apply hK; clear hK K
  refine L_dec ((60 : Int) < l.length) (by simp) (fun h0 => ?_) (fun h0 => ?_)
  · refine L_reg [8] (fun K hK => ?_)
    simp [okFn_low]
    refine works_ac _ _ ?_
    simp
    apply hK; clear hK K
    exact L_ret ⟨.inr rfl, _, rfl, rfl⟩
  have h1 : l.length ≤ 60 := by omega
  refine L_reg [0, 1, 2, 3, 9, 10] (fun K hK => ?_)
  simp [okFn_low]
  refine Step_ac v l r _ _ (by omega) hv ?_
  simp
  apply hK; clear hK K
  refine L_reg [0, 1, 2, 3, 9, 10, 11, 12] (fun K hK => ?_)
  simp [okFn_low]
  refine StepR_ac v l r _ _ (by omega) hv ?_
  simp
  apply hK; clear hK K
  refine L_reg [0, 1, 2, 3, 9, 10, 11, 12, 13, 14] (fun K hK => ?_)
  simp [okFn_low]
  refine Sum_ac v l r _ _ (by omega) hv ?_
  simp
  apply hK; clear hK K
  refine L_reg [0, 1, 2, 3, 9, 10, 11, 12, 13, 14, 15, 16] (fun K hK => ?_)
  simp [okFn_low]
  refine SumR_ac v l r _ _ (by omega) hv ?_
  simp
  apply hK; clear hK K
  refine L_reg [8] (fun K hK => ?_)
  simp [okFn_low, pickV]
  refine Check_ac v l _ _ (by omega) hv ?_
  simp [okFn_low]
  refine CheckR_ac v l _ _ (by omega) hv ?_
  simp [okFn_low, pickV]
  refine Proves_ac v l r i s _ _ (by omega) hv ?_
  simp [okFn_low]
  refine ProvesR_ac v l r i s _ _ (by omega) hv ?_
  simp [okFn_low, pickV]
  refine works_ac _ _ ?_
  simp [pickV]
  apply hK; clear hK K
  exact L_ret ⟨.inr rfl, _, rfl, rfl⟩
theorem shadeBoxes_ac (v : AV) (l : List Int) (r : Bool) (H : AH) (hv : Ls H v l) : AC Try.prog 4 [v, .bool r] H fun u _ => u = .bool true := by
  have hl := ls_len hv
  refine L_body 88 Try.func4 rfl rfl ?_
  refine L_reg [0, 1] (fun K hK => ?_)
  simp
  apply hK; clear hK K
  refine L_reg [0, 1, 19] (fun K hK => ?_)
  simp [hl]
  apply hK; clear hK K
  refine L_dec ((60 : Int) < l.length) (by simp) (fun h0 => ?_) (fun h0 => ?_)
  · refine L_reg [4] (fun K hK => ?_)
    simp [okFn_low]
    refine works_ac _ _ ?_
    simp
    apply hK; clear hK K
    exact L_ret ⟨.inr rfl, _, rfl, rfl⟩
  have h1 : l.length ≤ 60 := by omega
  have hol : (orNil (shE l) (boxS r l)).length ≤ 60 := by
    unfold orNil
    split
    · rw [(boxS_perm r l).length_eq]; exact h1
    · simp
  refine L_reg [0, 1, 5, 6] (fun K hK => ?_)
  simp [okFn_low]
  refine Least_ac v l r _ _ (by omega) hv ?_
  simp
  apply hK; clear hK K
  refine L_reg [0, 1, 5, 6, 7, 8] (fun K hK => ?_)
  simp [okFn_low]
  refine LeastR_ac v l r _ _ (by omega) hv ?_
  simp
  apply hK; clear hK K
  refine L_reg [0, 1, 5, 6, 7, 8, 9, 10] (fun K hK => ?_)
  simp [okFn_low]
  refine Box_ac v l r _ _ (by omega) hv (fun w H1 hO hE => ?_)
  simp
  apply hK; clear hK K
  have hv1 := hv.ext hE
  refine L_reg [0, 1, 5, 6, 7, 8, 9, 10, 11, 12] (fun K hK => ?_)
  simp [okFn_low]
  refine BoxR_ac v l r _ _ (by omega) hv1 (fun w2 H2 hw2 hE2 => ?_)
  simp
  apply hK; clear hK K
  have hv2 := hv1.ext hE2
  refine L_reg [0, 1, 5, 6, 7, 8, 9, 10, 11, 12, 13, 14] (fun K hK => ?_)
  simp [okFn_low]
  refine Why_ac v l r _ _ (by omega) hv2 ?_
  simp
  apply hK; clear hK K
  refine L_reg [5, 6, 7, 8, 9, 10, 11, 12, 13, 14, 15, 16] (fun K hK => ?_)
  simp [okFn_low]
  refine WhyR_ac v l r _ _ (by omega) hv2 ?_
  simp
  apply hK; clear hK K
  refine L_reg [4] (fun K hK => ?_)
  simp [okFn_low, pickV]
  refine same_ac w w2 _ _ _ _ (by omega) (hO.own.ls.ext hE2) hw2 ?_
  simp [okFn_low, pickV]
  refine works_ac _ _ ?_
  simp [pickV]
  apply hK; clear hK K
  exact L_ret ⟨.inr rfl, _, rfl, rfl⟩
theorem shadeWides_ac (v : AV) (l : List Int) (r : Bool) (H : AH) (hv : Ls H v l) : AC Try.prog 5 [v, .bool r] H fun u _ => u = .bool true := by
  have hl := ls_len hv
  refine L_body 62 Try.func5 rfl rfl ?_
  refine L_reg [0, 1] (fun K hK => ?_)
  simp
  apply hK; clear hK K
  refine L_reg [0, 1, 15] (fun K hK => ?_)
  simp [hl]
  apply hK; clear hK K
  refine L_dec ((60 : Int) < l.length) (by simp) (fun h0 => ?_) (fun h0 => ?_)
  · refine L_reg [4] (fun K hK => ?_)
    simp [okFn_low]
    refine works_ac _ _ ?_
    simp
    apply hK; clear hK K
    exact L_ret ⟨.inr rfl, _, rfl, rfl⟩
  have h1 : l.length ≤ 60 := by omega
  have hol : (orNil (shE l) (wideS r l)).length ≤ 60 := by
    unfold orNil
    split
    · rw [(wideS_perm r l).length_eq]; exact h1
    · simp
  refine L_reg [0, 1, 5, 6] (fun K hK => ?_)
  simp [okFn_low]
  refine Most_ac v l r _ _ (by omega) hv ?_
  simp
  apply hK; clear hK K
  refine L_reg [0, 1, 5, 6, 7, 8] (fun K hK => ?_)
  simp [okFn_low]
  refine MostR_ac v l r _ _ (by omega) hv ?_
  simp
  apply hK; clear hK K
  refine L_reg [0, 1, 5, 6, 7, 8, 9, 10] (fun K hK => ?_)
  simp [okFn_low]
  refine Wide_ac v l r _ _ (by omega) hv (fun w H1 hO hE => ?_)
  simp
  apply hK; clear hK K
  have hv1 := hv.ext hE
  refine L_reg [5, 6, 7, 8, 9, 10, 11, 12] (fun K hK => ?_)
  simp [okFn_low]
  refine WideR_ac v l r _ _ (by omega) hv1 (fun w2 H2 hw2 hE2 => ?_)
  simp
  apply hK; clear hK K
  refine L_reg [4] (fun K hK => ?_)
  simp [okFn_low, pickV]
  refine same_ac w w2 _ _ _ _ (by omega) (hO.own.ls.ext hE2) hw2 ?_
  simp [okFn_low, pickV]
  refine works_ac _ _ ?_
  simp [pickV]
  apply hK; clear hK K
  exact L_ret ⟨.inr rfl, _, rfl, rfl⟩
end Go.Proofs.Ytpfkioakjmpimaa

/- What the laws make of numbers: trays, steps, sums. -/
namespace Go.Proofs.Ytpfkioakjmpimaa
open Go Go.Proofs.Ytpfkioakjmpimaa.AX

theorem slice_tail {P : Program} {t : TypeId} {n z : Nat} (h : arSz P t = some (n, z)) (hn : 0 < n) (hz : 0 < z) {H : AH} {r off ver s : Nat} {c : List AV} {k : IntKind} {m : Nat} (hr : H[r]? = some (.row c ver s false)) (hc : off + n * z = c.length) (hk : ∀ v ∈ c, v ≠ .undef) (hm : m ≤ n) :
    sliceR P t H (.ptr r off ver) none (some (.int k (m : Int))) none = some (.slice (some r) (off + 0) m ver z false) := by
  unfold arSz at h
  split at h
  case h_2 => cases h
  rename_i n' e hu
  obtain ⟨ie, hie, h⟩ := Option.map_eq_some_iff.1 h
  cases h
  have hmul : 0 < n * ie.size := Nat.mul_pos hn hz
  have h2 : (ld H r (off + n * ie.size - 1) ver).isSome = true := by
    rw [ld_row hr]
    have hlt : off + n * ie.size - 1 < c.length := by omega
    rw [List.getElem?_eq_getElem hlt]
    have := hk _ (List.getElem_mem hlt)
    generalize c[off + n * ie.size - 1] = v at this
    cases v <;> first | rfl | exact absurd rfl this
  have h3 : endOk H r (off + n * ie.size) = true := by simp [endOk, hr]; omega
  simp [sliceR, hu, hie, hn, hz, h2, h3, aBounds, aBound, hm, partOf]
/-- Bytes. -/
def By (n : Nat) (ws : List Int) : Prop := ws.length = n ∧ ∀ x ∈ ws, 0 ≤ x ∧ x < 256
theorem By.g {n : Nat} {ws : List Int} (h : By n ws) {i : Nat} (hi : i < n) : 0 ≤ Go.Proofs.Ytpfkioakjmpimaa.g ws i ∧ Go.Proofs.Ytpfkioakjmpimaa.g ws i < 256 := h.2 _ (gmem (by rw [h.1]; exact hi))
/-- How many shades a tray has, and which. -/
def trayN (ws : List Int) (most : Nat) : Nat := 1 + (g ws 0).toNat % most
def trayS (ws : List Int) (most : Nat) : List Int := (List.range (trayN ws most)).map fun i => g ws (1 + i) % 61
theorem trayN_le {ws : List Int} {most : Nat} (h : 0 < most) : 1 ≤ trayN ws most ∧ trayN ws most ≤ most := by
  have := Nat.mod_lt (g ws 0).toNat h
  unfold trayN; omega
theorem trayS_len (ws : List Int) (most : Nat) : (trayS ws most).length = trayN ws most := by simp [trayS]
theorem trayS_ok {ws : List Int} {most : Nat} (_hw : By 8 ws) (h : 0 < most) (hm : most ≤ 7) : shE (trayS ws most) = 0 := by
  have hl := trayS_len ws most
  obtain ⟨h1, h2⟩ := trayN_le (ws := ws) h
  refine shE_all (by omega) (by omega) fun i hi => ?_
  obtain ⟨x, hx⟩ : ∃ x, x = g (trayS ws most) i := ⟨_, rfl⟩
  have hm2 := gmem hi
  rw [← hx] at hm2 ⊢
  simp only [trayS, List.mem_map, List.mem_range] at hm2
  obtain ⟨j, hj, rfl⟩ := hm2
  omega
theorem bytes_known {ws : List Int} : ∀ v ∈ ws.map (AV.int .u8), v ≠ .undef := by
  intro v hv
  obtain ⟨i, -, rfl⟩ := List.mem_map.1 hv
  simp
theorem rem_int {a : Int} (h : 0 ≤ a) (b : Nat) : a.tmod (b : Int) = ((a.toNat % b : Nat) : Int) := by
  obtain ⟨n, rfl⟩ : ∃ n : Nat, a = n := ⟨a.toNat, by omega⟩
  rw [Int.tmod_eq_emod_of_nonneg (by omega)]
  simp
theorem ld_by {H : AH} {p s : Nat} {ws : List Int} (hr : H[p]? = some (.row (ws.map (.int .u8)) 0 s false)) {i : Nat} (hi : i < ws.length) : ld H p i 0 = some (.int .u8 (g ws i)) := by
  rw [ld_row hr, g_lt hi]
  simp [hi]
set_option maxRecDepth 100000 in
theorem made_ac (ws : List Int) (most : Nat) (hw : By 8 ws) (h0 : 0 < most) (hm : most ≤ 7) (H : AH) (Q : AV → AH → Prop) (h : ∀ v H', OwnF H.length H' v ((trayS ws most).map (.int .i64)) → Ext H H' → Q v H') : AC Try.prog 45 [.agg (ws.map (.int .u8)), .int .i64 most] H Q := by
  refine L_body 29 Try.func45 rfl rfl ?_
  refine L_reg [1, 2] (fun K hK => ?_)
  simp [AV.isU, acells]
  apply hK; clear hK K
  have hE0 : Ext H (H ++ [AObj.row (ws.map (.int .u8)) 0 0 false]) := .push _ _
  have r0 : (H ++ [AObj.row (ws.map (AV.int .u8)) 0 0 false])[H.length]? = some (.row (ws.map (.int .u8)) 0 0 false) := by simp
  have hl1 : (H ++ [AObj.row (ws.map (AV.int .u8)) 0 0 false]).length = H.length + 1 := by simp
  generalize H ++ [AObj.row (ws.map (.int .u8)) 0 0 false] = H1 at *
  generalize hp : H.length = p at *
  refine L_reg [1, 2, 5] (fun K hK => ?_)
  simp
  apply hK; clear hK K
  obtain ⟨n1, n2⟩ := trayN_le (ws := ws) h0
  have hwl := hw.1
  have l0 := ld_by r0 (i := 0) (by omega)
  have b0 := hw.g (i := 0) (by omega)
  have hrem := rem_int b0.1 most
  have hne : most ≠ 0 := by omega
  have hN : 1 + (((g ws 0).toNat % most : Nat) : Int) = (trayN ws most : Int) := by simp [trayN]
  have hpt := slice_tail ar41 (by decide) (by decide) (k := .i64) (m := trayN ws most) (off := 1) r0 (by simp [hwl]) bytes_known (by omega)
  have hTl := trayS_len ws most
  have hget : ∀ i, i < trayN ws most → (trayS ws most).take (i + 1) = (trayS ws most).take i ++ [g ws (1 + i) % 61] := fun i hi => by
    rw [List.take_add_one]
    congr 1
    unfold trayS
    rw [List.getElem?_map, List.getElem?_range hi]
    rfl
  generalize trayS ws most = T at *
  generalize trayN ws most = n at *
  refine L_reg [5, 15, 16, 17] (fun K hK => ?_)
  simp [l0, wrap_i64 (a := g ws 0) (by omega), hne, hrem, hN, wrap_i64 (a := (n : Int)) (by omega), -Int.natCast_emod, noSlice ar41, hpt]
  apply hK; clear hK K
  refine L_block (L_loopV [5, 17] (fun k vs H' => ∃ (i : Nat) (u : AV), k = n - i ∧ i ≤ n ∧ vs = [u, .int .i64 i] ∧ OwnF (p + 1) H' u ((T.take i).map (.int .i64)) ∧ Ext H1 H') _ [.slice none 0 0 0 1 false, .int .i64 0] rfl ⟨0, _, rfl, by omega, rfl, .nil _ _, .refl _⟩ ?_)
  rintro k _ H2 ⟨i, u, rfl, hi, rfl, hO, hE⟩
  refine L_reg [5, 15, 16, 17, 18] (fun K hK => ?_)
  simp
  apply hK; clear hK K
  refine L_dec (i < n) (by simp) (fun hlt => ?_) (fun hge => L_exit ?_)
  · refine L_block ?_
    have hr2 := hE.row r0
    have hld := ld_by hr2 (i := 1 + i) (by omega)
    have bi := hw.g (i := 1 + i) (by omega)
    have htk := hget i hlt
    generalize g ws (1 + i) = x at *
    have e61 : x.tmod 61 = x % 61 := Int.tmod_eq_emod_of_nonneg bi.1
    obtain ⟨v', H4, happ, hO4, hE14⟩ := ownF_append (P := Try.prog) hE el22 el22 (x := .int .i64 (x % 61)) (m := 1) (by rw [hl1]; exact hO) rfl (by simp; omega)
    rw [hl1] at hO4
    refine L_reg [5, 7, 15, 16, 17] (fun K hK => ?_)
    simp [hld, hlt]
    apply hK; clear hK K
    refine L_reg [5, 15, 16, 17] (fun K hK => ?_)
    simp [wrap_i64 (a := x) (by omega), e61, happ]
    apply hK; clear hK K
    refine L_reg [5, 15, 16, 17] (fun K hK => ?_)
    simp [wrap_i64 (a := (i : Int) + 1) (by omega)]
    apply hK; clear hK K
    exact ⟨n - (i + 1), [v', .int .i64 (i + 1 : Nat)], by omega, by simp, i + 1, v', rfl, by omega, rfl, by rw [htk]; simpa using hO4, hE14⟩
  · rw [List.take_of_length_le (by omega)] at hO
    refine L_reg [4] (fun K hK => ?_)
    simp
    apply hK; clear hK K
    exact L_ret ⟨.inr rfl, _, rfl, h u H2 (hO.mono (by omega)) (hE0.trans hE)⟩
set_option maxRecDepth 100000 in
theorem stepsL_ac (v : AV) (l : List Int) (r : Bool) (H : AH) (Q : AV → AH → Prop) (hlen : l.length ≤ 1000000) (hb : Bd 1000 l) (hv : Ls H v l)
    (h : ∀ v H', OwnF H.length H' v ((stepsS r l).map (.int .i64)) → Ext H H' → Q v H') : AC Try.prog 51 [v, .bool r] H Q := by
  have hl := ls_len hv
  refine L_body 49 Try.func51 rfl rfl ?_
  refine L_reg [0, 1] (fun K hK => ?_)
  simp
  apply hK; clear hK K
  refine L_reg [0, 1, 5] (fun K hK => ?_)
  simp
  apply hK; clear hK K
  refine L_reg [0, 1, 5, 9, 10] (fun K hK => ?_)
  simp [hl]
  apply hK; clear hK K
  have hslen := stepsS_len r l
  have hstart : ∀ i, i + 1 < l.length → (stepsS r l).take (i + 1) = (stepsS r l).take i ++ [df (g l i) (g l (i + 1))] := fun i hi => by
    unfold stepsS
    rw [List.take_append_of_le_length (by rw [stp_len]; omega), List.take_append_of_le_length (by rw [stp_len]; omega), stp_take hi]
  refine L_block (L_loopV [5, 10] (fun k vs H' => ∃ (i : Nat) (w : AV), k = l.length - i ∧ (i + 1 ≤ l.length ∨ i = 0 ∨ (i = l.length ∧ r = true ∧ 1 < l.length)) ∧ vs = [w, .int .i64 i] ∧ OwnF H.length H' w (((stepsS r l).take i).map (.int .i64)) ∧ Ext H H') _ [.slice none 0 0 0 1 false, .int .i64 0] rfl ⟨0, _, rfl, by omega, rfl, .nil _ _, .refl _⟩ ?_)
  rintro n _ H1 ⟨i, w, rfl, hi, rfl, hO, hE⟩
  have hv1 := hv.ext hE
  refine L_reg [0, 1, 5, 9, 10, 11] (fun K hK => ?_)
  simp
  apply hK; clear hK K
  refine L_dec (i < l.length) (by simp) (fun hlt => ?_) (fun hge => L_exit ?_)
  · refine L_block ?_
    have b1 := sh_g hb hlt
    obtain ⟨rz, pz, vz, hix, hld⟩ := ls_ix hv1 hlt
    refine L_reg [0, 1, 5, 6, 9, 10] (fun K hK => ?_)
    simp
    apply hK; clear hK K
    refine L_reg [0, 1, 5, 6, 7, 9, 10] (fun K hK => ?_)
    simp [wrap_i64 (a := (i : Int) + 1) (by omega)]
    apply hK; clear hK K
    refine L_reg [0, 1, 5, 6, 7, 9, 10, 18] (fun K hK => ?_)
    simp [hl]
    apply hK; clear hK K
    by_cases hlast : i + 1 = l.length
    · refine L_true (by simp; omega) ?_
      by_cases hr : r = true ∧ 1 < l.length
      · obtain ⟨rfl, hn⟩ := hr
        have e1 : (((i : Int) + 1) == 1) = false := by simp; omega
        refine L_reg [0, 1, 5, 6, 9, 10, 24] (fun K hK => ?_)
        simp [e1, pickV]
        apply hK; clear hK K
        refine L_false rfl ?_
        refine L_reg [0, 1, 5, 6, 7, 9, 10] (fun K hK => ?_)
        simp
        apply hK; clear hK K
        have b2 := sh_g hb (i := 0) (by omega)
        obtain ⟨ry, py, vy, hiy, hldy⟩ := ls_ix hv1 (i := 0) (by omega)
        have hiy0 : ∀ k, aIndexAddr Try.prog 22 v (.int k 0) = some (.ptr ry py vy) := hiy
        have hS : stepsS true l = (stepsS true l).take i ++ [df (g l i) (g l 0)] := by
          have e : stepsS true l = stp l ++ [df (g l (l.length - 1)) (g l 0)] := by unfold stepsS; rw [if_pos ⟨rfl, hn⟩]
          have ei : i = (stp l).length := by rw [stp_len]; omega
          rw [e, ei, List.take_left, stp_len]
        have hd : max (g l i - g l 0) (g l 0 - g l i) = df (g l i) (g l 0) := by unfold df; omega
        obtain ⟨v', H2, happ, hO2, hE2⟩ := ownF_append hE el22 el22 (x := .int .i64 (df (g l i) (g l 0))) (m := 1) hO rfl (by simp; omega)
        refine L_regT mixed [0, 1, 5, 9, 10] (by kernel_rfl) (fun K hK => ?_)
        simp [hix, hld, hiy0, hldy, wrap_i64 (a := g l i - g l 0) (by omega), wrap_i64 (a := g l 0 - g l i) (by omega), hd, happ]
        apply hK; clear hK K
        refine L_reg [0, 1, 5, 9, 10] (fun K hK => ?_)
        simp [wrap_i64 (a := (i : Int) + 1) (by omega)]
        apply hK; clear hK K
        refine ⟨l.length - (i + 1), [v', .int .i64 (i + 1 : Nat)], by omega, by simp, i + 1, v', rfl, .inr (.inr ⟨hlast, rfl, hn⟩), rfl, ?_, hE2⟩
        rw [List.take_of_length_le (by omega), hS]
        simpa using hO2
      · have hS : (stepsS r l).take i = stepsS r l := by
          unfold stepsS
          rw [if_neg hr, List.append_nil, List.take_of_length_le (by rw [stp_len]; omega)]
        rw [hS] at hO
        cases r with
        | false =>
          refine L_reg [0, 1, 5, 6, 9, 10, 24] (fun K hK => ?_)
          simp [pickV]
          apply hK; clear hK K
          refine L_true rfl ?_
          refine L_exit ?_
          refine L_reg [4] (fun K hK => ?_)
          simp
          apply hK; clear hK K
          exact L_ret ⟨.inr rfl, _, rfl, h w H1 hO hE⟩
        | true =>
          have hn1 : ¬ 1 < l.length := fun h => hr ⟨rfl, h⟩
          have e1 : (((i : Int) + 1) == 1) = true := by simp; omega
          refine L_reg [0, 1, 5, 6, 9, 10, 24] (fun K hK => ?_)
          simp [e1, pickV]
          apply hK; clear hK K
          refine L_true rfl ?_
          refine L_exit ?_
          refine L_reg [4] (fun K hK => ?_)
          simp
          apply hK; clear hK K
          exact L_ret ⟨.inr rfl, _, rfl, h w H1 hO hE⟩
    · refine L_false (by simp; omega) ?_
      have h1 : i + 1 < l.length := by omega
      have b2 := sh_g hb h1
      obtain ⟨ry, py, vy, hiy, hldy⟩ := ls_ix hv1 h1
      rw [show ((i + 1 : Nat) : Int) = (i : Int) + 1 by omega] at hiy
      have hd : max (g l i - g l (i + 1)) (g l (i + 1) - g l i) = df (g l i) (g l (i + 1)) := by unfold df; omega
      obtain ⟨v', H2, happ, hO2, hE2⟩ := ownF_append hE el22 el22 (x := .int .i64 (df (g l i) (g l (i + 1)))) (m := 1) hO rfl (by simp; omega)
      refine L_regT mixed [0, 1, 5, 9, 10] (by kernel_rfl) (fun K hK => ?_)
      simp [hix, hld, hiy, hldy, wrap_i64 (a := g l i - g l (i + 1)) (by omega), wrap_i64 (a := g l (i + 1) - g l i) (by omega), hd, happ]
      apply hK; clear hK K
      refine L_reg [0, 1, 5, 9, 10] (fun K hK => ?_)
      simp [wrap_i64 (a := (i : Int) + 1) (by omega)]
      apply hK; clear hK K
      refine ⟨l.length - (i + 1), [v', .int .i64 (i + 1 : Nat)], by omega, by simp, i + 1, v', rfl, by omega, rfl, ?_, hE2⟩
      rw [hstart i h1]
      simpa using hO2
  · have hS : (stepsS r l).take i = stepsS r l := List.take_of_length_le (by omega)
    rw [hS] at hO
    refine L_reg [4] (fun K hK => ?_)
    simp
    apply hK; clear hK K
    exact L_ret ⟨.inr rfl, _, rfl, h w H1 hO hE⟩
theorem mx_take {l : List Int} {i : Nat} {a : Int} (hi : i < l.length) : (l.take (i + 1)).foldl max a = max ((l.take i).foldl max a) (g l i) := by
  rw [List.take_add_one, List.getElem?_eq_getElem hi, Option.toList_some, List.foldl_append, g_lt hi]
  rfl
theorem Max_ac (v : AV) (l : List Int) (H : AH) (Q : AV → AH → Prop) (h1 : 1 ≤ l.length) (hlen : l.length ≤ 1000000) (hv : Ls H v l) (h : Q (.int .i64 (l.foldl max (g l 0))) H) : AC Try.prog 91 [v] H Q := by
  have hl := ls_len hv
  refine L_body 25 Try.func91 rfl rfl ?_
  refine L_reg [0] (fun K hK => ?_)
  simp
  apply hK; clear hK K
  refine L_reg [0, 7] (fun K hK => ?_)
  simp [hl]
  apply hK; clear hK K
  refine L_false (by simp; omega) ?_
  obtain ⟨rz, pz, vz, hix, hld⟩ := ls_ix hv (i := 0) (by omega)
  have hix0 : ∀ k, aIndexAddr Try.prog 22 v (.int k 0) = some (.ptr rz pz vz) := hix
  refine L_reg [0, 3] (fun K hK => ?_)
  simp [hix0, hld]
  apply hK; clear hK K
  refine L_reg [0, 3, 4] (fun K hK => ?_)
  simp
  apply hK; clear hK K
  have hst : (l.take 1).foldl max (g l 0) = g l 0 := by
    have := mx_take (a := g l 0) (i := 0) (l := l) (by omega)
    rw [this]; simp
  refine L_block (L_loopV [3, 4] (fun n vs H' => ∃ i : Nat, n = l.length - i ∧ 1 ≤ i ∧ i ≤ l.length ∧ vs = [.int .i64 ((l.take i).foldl max (g l 0)), .int .i64 i] ∧ H = H') _ [.int .i64 (g l 0), .int .i64 1] rfl ⟨1, rfl, by omega, by omega, by rw [hst]; rfl, rfl⟩ ?_)
  rintro n _ _ ⟨i, rfl, hi1, hi, rfl, rfl⟩
  refine L_reg [0, 3, 4, 15] (fun K hK => ?_)
  simp [hl]
  apply hK; clear hK K
  refine L_dec (i < l.length) (by simp) (fun hlt => ?_) (fun hge => L_exit ?_)
  · refine L_block ?_
    obtain ⟨ry, py, vy, hiy, hldy⟩ := ls_ix hv hlt
    refine L_reg [0, 3, 4] (fun K hK => ?_)
    simp [hiy, hldy]
    apply hK; clear hK K
    refine L_reg [0, 3, 4] (fun K hK => ?_)
    simp [wrap_i64 (a := (i : Int) + 1) (by omega)]
    apply hK; clear hK K
    exact ⟨l.length - (i + 1), [.int .i64 ((l.take (i + 1)).foldl max (g l 0)), .int .i64 (i + 1 : Nat)], by omega, by simp [mx_take hlt], i + 1, rfl, by omega, by omega, rfl, rfl⟩
  · rw [List.take_of_length_le (by omega)]
    refine L_reg [2] (fun K hK => ?_)
    simp
    apply hK; clear hK K
    exact L_ret ⟨.inr rfl, _, rfl, h⟩
theorem greatestL_ac (v : AV) (l : List Int) (H : AH) (Q : AV → AH → Prop) (hlen : l.length ≤ 1000) (hv : Ls H v l) (h : Q (.int .i64 (gr l)) H) : AC Try.prog 50 [v] H Q := by
  refine AC.quiet (belB_int _ _ _ _) (fun Q h => ?_) Q h
  refine L_body 7 Try.func50 rfl rfl ?_
  refine L_reg [0] (fun K hK => ?_)
  simp
  apply hK; clear hK K
  have hB : Ext H (H ++ [AObj.row [AV.int .i64 0] 0 1 false]) := .push _ _
  have hO : OwnF H.length (H ++ [AObj.row [AV.int .i64 0] 0 1 false]) (.slice (some H.length) 0 1 0 1 false) (([0] : List Int).map (.int .i64)) := .inr ⟨H.length, 0, 1, Nat.le_refl _, rfl, by simp⟩
  obtain ⟨u, H2, p1, p2, p3⟩ := ownF_appendL (P := Try.prog) hB el22 el22 hO (hv.ext hB) (by simp; omega)
  refine L_reg [2] (fun K hK => ?_)
  simp [okFn_low, p1]
  refine Max_ac u ([0] ++ l) _ _ (by simp) (by simp; omega) p2.own.ls ?_
  simp
  apply hK; clear hK K
  have e : l.foldl max (max (g (0 :: l) 0) 0) = gr l := by
    show l.foldl max (max 0 0) = _
    simp [gr]
  rw [e]
  exact L_ret ⟨.inr rfl, _, rfl, h H2 p3⟩
theorem sumL_ac (v : AV) (l : List Int) (H : AH) (Q : AV → AH → Prop) (hlen : l.length ≤ 1000000) (hb : Bd 1000000000 l) (hv : Ls H v l) (h : Q (.int .i64 l.sum) H) : AC Try.prog 53 [v] H Q := by
  have hl := ls_len hv
  refine L_body 17 Try.func53 rfl rfl ?_
  refine L_reg [0] (fun K hK => ?_)
  simp
  apply hK; clear hK K
  refine L_reg [0, 3] (fun K hK => ?_)
  simp
  apply hK; clear hK K
  refine L_reg [3, 6, 7, 8] (fun K hK => ?_)
  simp [hl]
  apply hK; clear hK K
  refine L_block (L_loopV [3, 8] (fun n vs H' => ∃ i : Nat, n = l.length - i ∧ i ≤ l.length ∧ vs = [.int .i64 (l.take i).sum, .int .i64 i] ∧ H = H') _ [.int .i64 0, .int .i64 0] rfl ⟨0, rfl, by omega, rfl, rfl⟩ ?_)
  rintro n _ _ ⟨i, rfl, hi, rfl, rfl⟩
  refine L_reg [3, 6, 7, 8, 9] (fun K hK => ?_)
  simp
  apply hK; clear hK K
  refine L_dec (i < l.length) (by simp) (fun hlt => ?_) (fun hge => L_exit ?_)
  · refine L_block ?_
    obtain ⟨rz, pz, vz, hix, hld⟩ := ls_ix hv hlt
    have hs := sum_small (by decide) (hb.take (i + 1)) (by decide) (by simp; omega)
    rw [sum_take hlt] at hs
    refine L_reg [3, 5, 6, 7, 8] (fun K hK => ?_)
    simp [hix, hld]
    apply hK; clear hK K
    refine L_reg [3, 6, 7, 8] (fun K hK => ?_)
    simp [wrap_i64 (a := (l.take i).sum + g l i) (by omega)]
    apply hK; clear hK K
    refine L_reg [3, 6, 7, 8] (fun K hK => ?_)
    simp [wrap_i64 (a := (i : Int) + 1) (by omega)]
    apply hK; clear hK K
    exact ⟨l.length - (i + 1), [.int .i64 (l.take (i + 1)).sum, .int .i64 (i + 1 : Nat)], by omega, by simp [sum_take hlt], i + 1, rfl, by omega, rfl, rfl⟩
  · rw [List.take_of_length_le (by omega)]
    refine L_reg [2] (fun K hK => ?_)
    simp
    apply hK; clear hK K
    exact L_ret ⟨.inr rfl, _, rfl, h⟩
end Go.Proofs.Ytpfkioakjmpimaa

/- What an index proves no arrangement avoids. -/
namespace Go.Proofs.Ytpfkioakjmpimaa
open Go Go.Proofs.Ytpfkioakjmpimaa.AX

theorem rs_le {r : Bool} {l o : List Int} (ho : o.Perm l) {i : Nat} (hi : i < (rsS r l).length) : g (rsS r l) i ≤ stepC r o := by
  have hl := rsS_len r l
  rw [g_rs (by omega)]
  have hsl := srt_len l
  have := lower (r := r) (srt_sorted l) (srt_perm l) ho (i := i) (by rw [hsl]; omega)
  rw [hsl] at this
  exact this
theorem gr_rs_le {r : Bool} {l o : List Int} (ho : o.Perm l) : gr (rsS r l) ≤ stepC r o := gr_le (gr_nn _) fun x hx => by
  obtain ⟨i, hi, rfl⟩ := memg hx
  exact rs_le ho hi
theorem prov_no {r : Bool} {l o : List Int} (h0 : shE l = 0) (ho : o.Perm l) (i : Int) : provE l r i (stepC r o + 1) = 14 ∨ provE l r i (stepC r o + 1) = 1 := by
  unfold provE
  rw [if_pos h0]
  split
  · rename_i hc
    have := rs_le (r := r) ho (i := i.toNat) (by omega)
    rw [if_pos (by omega)]
    exact .inl rfl
  · exact .inr rfl
theorem prov_zero {r : Bool} {l : List Int} (h0 : shE l = 0) (h1 : 1 ≤ l.length) {i : Nat} : provE l r i 0 = if i + reachS l.length r < l.length then 0 else 1 := by
  unfold provE
  rw [if_pos h0]
  have hl := rsS_len r l
  obtain ⟨r1, r2⟩ := reach_le h1 r
  by_cases hc : i + reachS l.length r < l.length
  · rw [if_pos hc, if_pos (by omega), if_neg]
    have := rs_nn r l h1 _ (gmem (l := rsS r l) (i := i) (by omega))
    simp only [Int.toNat_natCast]; omega
  · rw [if_neg hc, if_neg (by omega)]
theorem prov_eq {r : Bool} {l : List Int} (h0 : shE l = 0) (h2 : 2 ≤ l.length) {i : Nat} : (provE l r i 0 == 0) = (decide (i + 1 < l.length) && (!r || decide (l.length = 2) || decide (i + 2 < l.length))) := by
  rw [prov_zero h0 (by omega)]
  unfold reachS
  cases r with
  | false => by_cases c1 : i + 1 < l.length <;> simp [c1]
  | true =>
    by_cases c2 : l.length = 2
    · by_cases c1 : i + 1 < 2 <;> simp [c2, c1]
    · have c3 : 2 < l.length := by omega
      by_cases c4 : i + 2 < l.length
      · have c1 : i + 1 < l.length := by omega
        simp [c1, c2, c3, c4]
      · simp [c2, c3, c4]
set_option maxHeartbeats 2000000 in
set_option maxRecDepth 100000 in
theorem shadeProved_ac (ws by' : List Int) (hw : By 8 ws) (hby : By 7 by') (r : Bool) (at' : Int) (hat : 0 ≤ at' ∧ at' < 256) (H : AH) : AC Try.prog 8 [.agg (ws.map (.int .u8)), .bool r, .int .u8 at', .agg (by'.map (.int .u8))] H fun u _ => u = .bool true := by
  refine L_body 162 Try.func8 rfl rfl ?_
  refine L_reg [1, 2, 4, 7] (fun K hK => ?_)
  simp [AV.isU, acells]
  apply hK; clear hK K
  have r0 : (H ++ [AObj.row (ws.map (AV.int .u8)) 0 0 false, AObj.row (by'.map (AV.int .u8)) 0 0 false])[H.length]? = some (.row (ws.map (.int .u8)) 0 0 false) := by simp
  have r1 : (H ++ [AObj.row (ws.map (AV.int .u8)) 0 0 false, AObj.row (by'.map (AV.int .u8)) 0 0 false])[H.length + 1]? = some (.row (by'.map (.int .u8)) 0 0 false) := by simp
  generalize H ++ [AObj.row (ws.map (AV.int .u8)) 0 0 false, AObj.row (by'.map (AV.int .u8)) 0 0 false] = H1 at r0 r1 ⊢
  generalize H.length = p at r0 r1 ⊢
  have hld8 : ldn H1 p 0 8 0 = some (ws.map (.int .u8)) := by
    rw [ldn_row r0, List.drop_zero]
    have := takeKnown_one (vs := ws.map (AV.int .u8)) (by rw [List.all_eq_true]; intro x hx; obtain ⟨i, -, rfl⟩ := List.mem_map.1 hx; rfl)
    rw [List.length_map, hw.1] at this
    exact this
  refine L_reg [1, 2, 7, 9] (fun K hK => ?_)
  simp [okFn_low, hld8]
  refine made_ac ws 7 hw (by decide) (by decide) H1 _ (fun v H2 hO hE => ?_)
  simp
  apply hK; clear hK K
  have h0 := trayS_ok hw (by decide : 0 < 7) (by decide)
  obtain ⟨b1, b2, b3⟩ := Bd.ok h0
  generalize trayS ws 7 = l at *
  have hv := hO.own.ls
  refine L_reg [1, 2, 7, 9, 10] (fun K hK => ?_)
  simp [okFn_low]
  refine Clone_ac v l H2 _ (by omega) hv (fun w H3 hO3 hE3 => ?_)
  simp
  apply hK; clear hK K
  have hE13 := hE.trans hE3
  have r1 := hE13.row r1
  have hv3 := hv.ext hE3
  have hpl : ∀ j, rowOf v = some j → j < H2.length := fun j hj => (ownF_rowlt hO hj).2
  have hplen : p + 1 < H3.length := (List.getElem?_eq_some_iff.1 r1).1
  have hp2 : p + 1 < H2.length := by
    have := hE.1
    have h5 := (List.getElem?_eq_some_iff.1 (show H1[p + 1]? = _ from by assumption)).1
    omega
  rcases hO3 with ⟨g1, -⟩ | ⟨ra, va, sa, g1, rfl, g3⟩
  · have : l = [] := by simpa using g1
    subst this; simp at b1
  rw [List.length_map]
  have hA : Rw ra va H3 l := ⟨sa, g3⟩
  have hl := ls_len hA.ls
  refine L_reg [1, 2, 7, 9, 10, 26, 27] (fun K hK => ?_)
  simp
  apply hK; clear hK K
  refine L_block (L_loopV [27] (fun n vs H' => ∃ (i : Nat) (o : List Int), n = l.length - i ∧ i ≤ l.length ∧ o.Perm l ∧ vs = [.int .i64 i] ∧ Rw ra va H' o ∧ KeepX ra H3 H') _ [.int .i64 0] rfl ⟨0, l, rfl, by omega, .refl _, rfl, hA, .refl _ _⟩ ?_)
  rintro n _ H4 ⟨i, o, rfl, hi, ho, rfl, hB, hK⟩
  have hol := ho.length_eq
  refine L_reg [1, 2, 7, 9, 10, 26, 27, 28] (fun K hK => ?_)
  simp
  apply hK; clear hK K
  refine L_dec (i < l.length) (by simp) (fun hlt => ?_) (fun hge => L_exit ?_)
  · refine L_block ?_
    have r4 := hK.row (by omega) r1
    have hldb := ld_by r4 (i := i) (by rw [hby.1]; omega)
    have bb := hby.g (i := i) (by omega)
    generalize g by' i = x at *
    have hne : ((i : Int) + 1) ≠ 0 := by omega
    have hrem : x.tmod ((i : Int) + 1) = ((x.toNat % (i + 1) : Nat) : Int) := by
      have := rem_int bb.1 (i + 1)
      rw [show ((i + 1 : Nat) : Int) = (i : Int) + 1 by omega] at this
      exact this
    have hk : x.toNat % (i + 1) < i + 1 := Nat.mod_lt _ (by omega)
    have hi7 : (i : Int) < 7 := by omega
    refine L_reg [1, 2, 7, 9, 10, 11, 26, 27] (fun K hK => ?_)
    simp
    apply hK; clear hK K
    refine L_reg [1, 2, 7, 9, 10, 11, 12, 26, 27] (fun K hK => ?_)
    simp [hldb, hi7, wrap_i64 (a := x) (by omega), wrap_i64 (a := (i : Int) + 1) (by omega), hne, hrem, -Int.natCast_emod]
    apply hK; clear hK K
    generalize x.toNat % (i + 1) = k at *
    obtain ⟨H5, H6, e1, e2, e3, e4⟩ := hB.swap (i := i) (j := k) (by omega) (by omega)
    have hx := hB.ld (i := i) (by omega)
    have hy := hB.ld (i := k) (by omega)
    have hkl : k < l.length := by omega
    refine L_regT mixed [1, 2, 7, 9, 10, 26, 27] (by kernel_rfl) (fun K hK => ?_)
    simp [hlt, hkl, hx, hy, e1, e2]
    apply hK; clear hK K
    refine L_reg [1, 2, 7, 9, 10, 26, 27] (fun K hK => ?_)
    simp [wrap_i64 (a := (i : Int) + 1) (by omega)]
    apply hK; clear hK K
    exact ⟨l.length - (i + 1), [.int .i64 (i + 1 : Nat)], by omega, by simp, i + 1, _, rfl, by omega, (sw_perm (by omega) (by omega)).trans ho, rfl, e3, hK.trans e4⟩
  · have hE4 : Ext H2 H4 := hK.new hE3 (by omega)
    have hv4 := hv.ext hE4
    have hvl := ls_len hv4
    have ho4 := hB.ls
    rw [hol] at ho4
    have hbo := b3.perm ho
    have h0o : shE o = 0 := shE_all (by omega) (by omega) fun j hj => (shE_ok h0).2.2 _ (ho.mem_iff.1 (gmem hj))
    refine L_reg [1, 2, 9, 10, 13, 14] (fun K hK => ?_)
    simp [okFn_low]
    refine Step_ac _ o r _ _ (by omega) ho4 ?_
    simp
    apply hK; clear hK K
    refine L_reg [1, 2, 9, 10, 13, 14, 15, 16] (fun K hK => ?_)
    simp [okFn_low]
    refine Sum_ac _ o r _ _ (by omega) ho4 ?_
    simp
    apply hK; clear hK K
    rw [h0o]
    simp only [if_true]
    have hsl := stepsS_len r o
    have hbd := df_bd hbo (r := r)
    refine L_reg [1, 2, 9, 13, 85] (fun K hK => ?_)
    simp [okFn_low, pickV]
    refine stepsL_ac _ o r _ _ (by omega) hbo ho4 (fun u1 H5 hu1 hE5 => ?_)
    simp [okFn_low]
    refine greatestL_ac u1 _ _ _ (by omega) hu1.own.ls ?_
    have e1 : gr (stepsS r o) = stepC r o := rfl
    simp [okFn_low, pickV, e1]
    refine stepsL_ac _ o r _ _ (by omega) hbo (ho4.ext hE5) (fun u2 H6 hu2 hE6 => ?_)
    simp [okFn_low]
    refine sumL_ac u2 _ _ _ (by omega) (fun x hx => by have := hbd x hx; omega) hu2.own.ls ?_
    have e2 : (stepsS r o).sum = sumC r o := rfl
    simp [pickV, e2]
    apply hK; clear hK K
    refine L_false rfl ?_
    have hv6 := hv4.ext (hE5.trans hE6)
    have hvl := ls_len hv6
    have hsc : -1 ≤ stepC r o ∧ stepC r o ≤ 2000 := ⟨by have := gr_nn (stepsS r o); unfold stepC; omega, gr_le (by omega) fun x hx => (hbd x hx).2⟩
    refine L_reg [1, 2, 9, 13, 17] (fun K hK => ?_)
    simp
    apply hK; clear hK K
    refine L_block (L_loopV [17] (fun n vs H' => ∃ k : Nat, n = l.length + 2 - k ∧ k ≤ l.length + 2 ∧ vs = [.int .i64 ((k : Int) - 1)] ∧ H6 = H') _ [.int .i64 (-1)] rfl ⟨0, rfl, by omega, rfl, rfl⟩ ?_)
    rintro n _ _ ⟨k, rfl, hk, rfl, rfl⟩
    refine L_reg [1, 2, 9, 13, 17, 89] (fun K hK => ?_)
    simp [hvl]
    apply hK; clear hK K
    refine L_dec ((k : Int) - 1 ≤ l.length) rfl (fun hlt => ?_) (fun hge => L_exit ?_)
    · refine L_block ?_
      refine L_reg [1, 2, 9, 13, 17, 18] (fun K hK => ?_)
      simp [okFn_low, wrap_i64 (a := stepC r o + 1) (by omega)]
      refine Proves_ac v l r _ _ _ _ (by omega) hv6 ?_
      simp
      apply hK; clear hK K
      rcases prov_no (r := r) h0 ho ((k : Int) - 1) with e | e
      · refine L_reg [1, 2, 9, 13, 17, 107] (fun K hK => ?_)
        simp [e, pickV]
        apply hK; clear hK K
        refine L_false rfl ?_
        refine L_reg [1, 2, 9, 13, 17] (fun K hK => ?_)
        simp [show (k : Int) - 1 + 1 = k by omega, wrap_i64 (a := (k : Int)) (by omega)]
        apply hK; clear hK K
        exact ⟨l.length + 2 - (k + 1), [.int .i64 (k : Int)], by omega, by simp, k + 1, rfl, by omega, by simp, rfl⟩
      · refine L_reg [1, 2, 9, 13, 17, 107] (fun K hK => ?_)
        simp [e, pickV]
        apply hK; clear hK K
        refine L_false rfl ?_
        refine L_reg [1, 2, 9, 13, 17] (fun K hK => ?_)
        simp [show (k : Int) - 1 + 1 = k by omega, wrap_i64 (a := (k : Int)) (by omega)]
        apply hK; clear hK K
        exact ⟨l.length + 2 - (k + 1), [.int .i64 (k : Int)], by omega, by simp, k + 1, rfl, by omega, by simp, rfl⟩
    · refine L_reg [1, 2, 9, 13, 110] (fun K hK => ?_)
      simp [hvl]
      apply hK; clear hK K
      refine L_dec ((l.length : Int) < 2) rfl (fun h2 => ?_) (fun h2 => ?_)
      · refine L_reg [8] (fun K hK => ?_)
        simp [okFn_low]
        refine works_ac _ _ ?_
        simp
        apply hK; clear hK K
        exact L_ret ⟨.inr rfl, _, rfl, rfl⟩
      · have hrem := rem_int hat.1 l.length
        have hne : l.length ≠ 0 := by omega
        have hlt7 : at'.toNat % l.length < l.length := Nat.mod_lt _ (by omega)
        refine L_reg [1, 9, 13, 19] (fun K hK => ?_)
        simp [hvl, wrap_i64 (a := at') (by omega), hne, hrem, -Int.natCast_emod]
        apply hK; clear hK K
        generalize at'.toNat % l.length = i at *
        refine L_reg [1, 9, 13, 14, 19, 20] (fun K hK => ?_)
        simp [okFn_low]
        refine Least_ac v l r _ _ (by omega) hv6 ?_
        simp
        apply hK; clear hK K
        rw [h0]
        simp only [if_true]
        have hle := gr_rs_le (r := r) ho
        have hpe := prov_eq (r := r) h0 (by omega) (i := i)
        have hneg : ((l.length : Int) == 2) = decide (l.length = 2) := by
          by_cases c : l.length = 2
          · simp [c]
          · have : ¬ ((l.length : Int) = 2) := by omega
            simp [c, this]
        refine L_reg [8] (fun K hK => ?_)
        simp [okFn_low, pickV, hle]
        refine Proves_ac v l r i 0 _ _ (by omega) hv6 ?_
        generalize provE l r i 0 = x at *
        have w1 := wrap_i64 (a := (i : Int) + 1) (by omega)
        have w2 := wrap_i64 (a := (i : Int) + 2) (by omega)
        have hb4 := fun (x y : Bool) (lit : Bool) => b_eqlB (P := Try.prog) (l := lit) Try.underlying4 x y
        by_cases c1 : (i : Int) + 1 < l.length
        · have c1d : decide ((i : Int) + 1 < l.length) = true := by simpa using c1
          cases r with
          | false =>
            have hx : (x == 0) = true := by rw [hpe]; simp; omega
            simp (maxSteps := 3000000) [okFn_low, pickV, hvl, c1d, hx, hb4, w1]
            refine works_ac _ _ ?_
            simp [pickV]
            apply hK; clear hK K
            exact L_ret ⟨.inr rfl, _, rfl, rfl⟩
          | true =>
            by_cases c2 : (l.length : Int) = 2
            · have hx : (x == 0) = true := by rw [hpe]; simp; omega
              have c2b : ((l.length : Int) == 2) = true := by simpa using c2
              simp (maxSteps := 3000000) [okFn_low, pickV, hvl, c1d, hx, hb4, w1, c2b]
              refine works_ac _ _ ?_
              simp [pickV]
              apply hK; clear hK K
              exact L_ret ⟨.inr rfl, _, rfl, rfl⟩
            · have c2b : ((l.length : Int) == 2) = false := by simpa using c2
              by_cases c3 : (i : Int) + 2 < l.length
              · have c3d : decide ((i : Int) + 2 < l.length) = true := by simpa using c3
                have hx : (x == 0) = true := by rw [hpe]; simp; omega
                simp (maxSteps := 3000000) [okFn_low, pickV, hvl, c1d, hx, hb4, w1, w2, c2b, c3d]
                refine works_ac _ _ ?_
                simp [pickV]
                apply hK; clear hK K
                exact L_ret ⟨.inr rfl, _, rfl, rfl⟩
              · have c3d : decide ((i : Int) + 2 < l.length) = false := by simpa using c3
                have hx : (x == 0) = false := by rw [hpe]; simp; omega
                simp (maxSteps := 3000000) [okFn_low, pickV, hvl, c1d, hx, hb4, w1, w2, c2b, c3d]
                refine works_ac _ _ ?_
                simp [pickV]
                apply hK; clear hK K
                exact L_ret ⟨.inr rfl, _, rfl, rfl⟩
        · have c1d : decide ((i : Int) + 1 < l.length) = false := by simpa using c1
          have hx : (x == 0) = false := by rw [hpe]; simp; omega
          simp (maxSteps := 3000000) [okFn_low, pickV, hvl, c1d, hx, hb4, w1, w2]
          refine works_ac _ _ ?_
          simp [pickV]
          apply hK; clear hK K
          exact L_ret ⟨.inr rfl, _, rfl, rfl⟩
end Go.Proofs.Ytpfkioakjmpimaa

/- How many turning orders begin with a number: the triangle, row by row. -/
namespace Go.Proofs.Ytpfkioakjmpimaa
open Go Go.Proofs.Ytpfkioakjmpimaa.AX
set_option linter.unusedVariables false
theorem Bd.mono {M N : Int} {l : List Int} (h : Bd M l) (hn : M ≤ N) : Bd N l := fun x hx => by have := h x hx; omega
/-- The triangle's row with an index: its sums of the row before. -/
def ern : Nat → List Int
  | 0 => [1]
  | m + 1 => (List.range (m + 2)).map fun f => ((ern m).take (m + 1 - f)).sum
theorem ern_len (m : Nat) : (ern m).length = m + 1 := by cases m <;> simp [ern]
theorem ern_g {m f : Nat} (h : f < m + 2) : g (ern (m + 1)) f = ((ern m).take (m + 1 - f)).sum := by
  rw [g_lt (by simp [ern]; omega)]; simp [ern]
theorem ern_bd : ∀ m, m ≤ 8 → Bd 10000 (ern m) := by unfold Bd; decide
theorem ern_sum : ∀ m, m ≤ 8 → ∀ f, f ≤ 9 → 0 ≤ ((ern m).take f).sum ∧ ((ern m).take f).sum ≤ 100000 := by decide
/-- Orders of n cigars that begin with k, and all of them. -/
def eb (n k : Nat) : Int := g (ern (n - 1)) k
def ec (n : Nat) : Int := (ern (n - 1)).sum
set_option maxRecDepth 100000 in
theorem begins_ac (n : Nat) (h1 : 1 ≤ n) (h9 : n ≤ 9) (H : AH) (Q : AV → AH → Prop) (h : ∀ v H', OwnF H.length H' v ((ern (n - 1)).map (.int .i64)) → Ext H H' → Q v H') : AC Try.prog 82 [.int .i64 n] H Q := by
  refine L_body 33 Try.func82 rfl rfl ?_
  refine L_reg [0] (fun K hK => ?_)
  simp
  apply hK; clear hK K
  refine L_reg [0, 3] (fun K hK => ?_)
  simp
  apply hK; clear hK K
  have hE : Ext H (H ++ [AObj.row [AV.int .i64 1] 0 1 false]) := .push _ _
  have hO : OwnF H.length (H ++ [AObj.row [AV.int .i64 1] 0 1 false]) (.slice (some H.length) 0 1 0 1 false) ((ern 0).map (.int .i64)) := .inr ⟨H.length, 0, 1, Nat.le_refl _, rfl, by simp [ern]⟩
  generalize H ++ [AObj.row [AV.int .i64 1] 0 1 false] = H1 at hE hO ⊢
  refine L_block (L_loopV [3] (fun k vs H' => ∃ (j : Nat) (w : AV), k = n - (j + 1) ∧ j + 1 ≤ n ∧ vs = [w] ∧ OwnF H.length H' w ((ern j).map (.int .i64)) ∧ Ext H H') _ [_] rfl ⟨0, _, rfl, by omega, rfl, hO, hE⟩ ?_)
  rintro _ _ H2 ⟨j, w, rfl, hj, rfl, hO2, hE2⟩
  have hw := hO2.own.ls
  have hl := ls_len hw
  rw [ern_len] at hl
  refine L_reg [0, 3, 10] (fun K hK => ?_)
  simp [hl]
  apply hK; clear hK K
  refine L_dec (j + 1 < n) (by simp; omega) (fun hlt => ?_) (fun hge => L_exit ?_)
  · refine L_block ?_
    have e1 : (j : Int) + 1 + 1 = ((j + 2 : Nat) : Int) := by omega
    have hmk := fun H => make_z (P := Try.prog) (H := H) elz22 (show j + 2 ≤ 16777216 by omega)
    rw [show ((j + 2 : Nat) : Int) = (j : Int) + 2 by omega] at hmk
    have e0 : IntKind.i64.wrap ((j : Int) + 1 + 1) = ((j + 2 : Nat) : Int) := by rw [wrap_i64 (by omega)]; omega
    refine L_reg [0, 3, 4] (fun K hK => ?_)
    simp [hl, e0, hmk]
    apply hK; clear hK K
    have hrow : Rw H2.length 0 (H2 ++ [AObj.row (List.replicate (j + 2) (AV.int .i64 0)) 0 0 false]) (List.replicate (j + 2) 0) := ⟨0, by simp⟩
    have hE3 : Ext H2 (H2 ++ [AObj.row (List.replicate (j + 2) (AV.int .i64 0)) 0 0 false]) := .push _ _
    have hE23 := hE2.trans hE3
    have hw3 := hw.ext hE3
    have hge2 := hE2.1
    generalize H2 ++ [AObj.row (List.replicate (j + 2) (AV.int .i64 0)) 0 0 false] = H3 at hrow hE3 hE23 hw3 ⊢
    refine L_reg [0, 3, 4, 16, 17] (fun K hK => ?_)
    simp
    apply hK; clear hK K
    refine L_block (L_loopV [17] (fun k vs H' => ∃ (f : Nat) (d : List Int), k = j + 2 - f ∧ f ≤ j + 2 ∧ d.length = j + 2 ∧ (∀ i, i < f → g d i = g (ern (j + 1)) i) ∧ vs = [.int .i64 f] ∧ Rw H2.length 0 H' d ∧ KeepX H2.length H3 H') _ [.int .i64 0] rfl ⟨0, _, rfl, by omega, by simp, fun i hi => by omega, rfl, hrow, .refl _ _⟩ ?_)
    rintro _ _ H4 ⟨f, d, rfl, hf, hdl, hd, rfl, hr4, hK4⟩
    refine L_reg [0, 3, 4, 16, 17, 18] (fun K hK => ?_)
    simp
    apply hK; clear hK K
    refine L_dec (f < j + 2) (by simp; omega) (fun hlt2 => ?_) (fun hge2 => L_exit ?_)
    · refine L_block ?_
      have hw4 : Ls H4 w (ern j) := ls_keep hw3 fun i hi hi2 => by
        have := ownF_rowlt hO2 hi2
        exact hK4.2 i (by omega) hi
      refine L_reg [0, 3, 4, 5, 16, 17] (fun K hK => ?_)
      simp
      apply hK; clear hK K
      have e2 : IntKind.i64.wrap ((j : Int) + 1 - f) = ((j + 1 - f : Nat) : Int) := by rw [wrap_i64 (by omega)]; omega
      obtain ⟨u, hu1, hu2⟩ := ls_hi hw4 (by rw [ern_len]; omega) (m := j + 1 - f) (by rw [ern_len]; omega)
      have hb := ern_bd j (by omega)
      have hs := ern_sum j (by omega) (j + 1 - f) (by omega)
      have hgf := ern_g (m := j) (f := f) hlt2
      obtain ⟨H5, p3, p4, p5⟩ := hr4.put (i := f) (by omega) (g (ern (j + 1)) f)
      rw [hgf] at p3
      refine L_reg [0, 3, 4, 16, 17] (fun K hK => ?_)
      simp [okFn_low, hl, e2, hu1]
      refine total_ac u _ _ _ (by simp [ern_len]; omega) ((hb.take _).mono (by decide : (10000 : Int) ≤ 1000000000)) hu2 ?_
      simp [show (f : Int) < (j : Int) + 2 by omega, p3]
      apply hK; clear hK K
      refine L_reg [0, 3, 4, 16, 17] (fun K hK => ?_)
      simp [wrap_i64 (a := (f : Int) + 1) (by omega)]
      apply hK; clear hK K
      refine ⟨j + 2 - (f + 1), [.int .i64 (f + 1 : Nat)], by omega, by simp, f + 1, _, rfl, by omega, by simpa using hdl, fun i hi => ?_, rfl, p4, hK4.trans p5⟩
      rw [g_set (by omega)]
      split
      · rename_i e; rw [e]
      · exact hd i (by omega)
    · have : d = ern (j + 1) := g_ext (by rw [ern_len]; omega) fun i hi => hd i (by omega)
      subst this
      refine L_reg [0, 3] (fun K hK => ?_)
      simp
      apply hK; clear hK K
      refine ⟨n - (j + 2), [_], by omega, rfl, j + 1, _, rfl, by omega, rfl, ?_, hK4.new hE23 (by omega)⟩
      have := hr4.ownF (N := H.length) (by omega)
      rwa [ern_len] at this
  · obtain rfl : j = n - 1 := by omega
    refine L_reg [2] (fun K hK => ?_)
    simp
    apply hK; clear hK K
    exact L_ret ⟨.inr rfl, _, rfl, h _ _ hO2 hE2⟩
theorem isOrder_ac (n : Int) (b : Bool) (hb : b = decide (1 ≤ n ∧ n ≤ 9)) (H : AH) (Q : AV → AH → Prop) (h : Q (.bool b) H) : AC Try.prog 79 [.int .i64 n] H Q := by
  refine L_body 9 Try.func79 rfl rfl ?_
  refine L_reg [0] (fun K hK => ?_)
  simp
  apply hK; clear hK K
  by_cases a : 1 ≤ n
  · refine L_reg [2] (fun K hK => ?_)
    simp [pickV, a]
    apply hK; clear hK K
    exact L_ret ⟨.inr rfl, _, rfl, (by simpa [a, hb] using h)⟩
  · refine L_reg [2] (fun K hK => ?_)
    simp [pickV, a]
    apply hK; clear hK K
    exact L_ret ⟨.inr rfl, _, rfl, (by simpa [a, hb] using h)⟩
theorem count_ac (n : Nat) (h1 : 1 ≤ n) (h9 : n ≤ 9) (H : AH) (Q : AV → AH → Prop) (h : Q (.int .i64 (ec n)) H) : AC Try.prog 80 [.int .i64 n] H Q := by
  refine AC.quiet (belB_int _ _ _ _) (fun Q h => ?_) Q h
  refine L_body 6 Try.func80 rfl rfl ?_
  refine L_reg [0] (fun K hK => ?_)
  simp
  apply hK; clear hK K
  refine L_reg [2] (fun K hK => ?_)
  simp [okFn_low]
  refine begins_ac n h1 h9 _ _ (fun w H1 hO hE => ?_)
  simp [okFn_low]
  refine total_ac w _ _ _ (by simp [ern_len]; omega) ((ern_bd (n - 1) (by omega)).mono (by decide : (10000 : Int) ≤ 1000000000)) hO.own.ls ?_
  simp
  apply hK; clear hK K
  exact L_ret ⟨.inr rfl, _, rfl, h H1 hE⟩
def bgV (n k : Int) : Int := if (1 ≤ n ∧ n ≤ 9) ∧ 0 ≤ k ∧ k < n then eb n.toNat k.toNat else 0
def bgE (n k : Int) : Int := if (1 ≤ n ∧ n ≤ 9) ∧ 0 ≤ k ∧ k < n then 0 else 1
def cnV (n : Int) : Int := if 1 ≤ n ∧ n ≤ 9 then ec n.toNat else 0
def cnE (n : Int) : Int := if 1 ≤ n ∧ n ≤ 9 then 0 else 1
theorem Count_ac (n : Int) (H : AH) (Q : AV → AH → Prop) (h : Q (.tuple [.int .i64 (cnV n), .int .i64 (cnE n)]) H) : AC Try.prog 37 [.int .i64 n] H Q := by
  refine L_body 9 Try.func37 rfl rfl ?_
  refine L_reg [0] (fun K hK => ?_)
  simp
  apply hK; clear hK K
  unfold cnV cnE at h
  by_cases a : 1 ≤ n ∧ n ≤ 9
  · rw [if_pos a, if_pos a] at h
    refine L_reg [0, 6] (fun K hK => ?_)
    simp [okFn_low]
    refine isOrder_ac _ true (by simp [a]) _ _ ?_
    simp
    apply hK; clear hK K
    refine L_false rfl ?_
    obtain ⟨m, rfl⟩ : ∃ m : Nat, n = m := ⟨n.toNat, by omega⟩
    refine L_reg [2, 3] (fun K hK => ?_)
    simp [okFn_low]
    refine count_ac m (by omega) (by omega) _ _ ?_
    simp
    apply hK; clear hK K
    exact L_ret ⟨.inr rfl, _, rfl, (by simpa using h)⟩
  · rw [if_neg a, if_neg a] at h
    refine L_reg [0, 6] (fun K hK => ?_)
    simp [okFn_low]
    refine isOrder_ac _ false (by simp; omega) _ _ ?_
    simp
    apply hK; clear hK K
    refine L_true rfl ?_
    refine L_reg [2, 3] (fun K hK => ?_)
    simp
    apply hK; clear hK K
    exact L_ret ⟨.inr rfl, _, rfl, h⟩
theorem Begin_ac (n k : Int) (H : AH) (Q : AV → AH → Prop) (h : Q (.tuple [.int .i64 (bgV n k), .int .i64 (bgE n k)]) H) : AC Try.prog 39 [.int .i64 n, .int .i64 k] H Q := by
  refine AC.quiet (by simp [belB]) (fun Q h => ?_) Q h
  refine L_body 23 Try.func39 rfl rfl ?_
  refine L_reg [0, 1] (fun K hK => ?_)
  simp
  apply hK; clear hK K
  unfold bgV bgE at h
  by_cases a : 1 ≤ n ∧ n ≤ 9
  · by_cases a4 : k < 0
    · rw [if_neg (by omega), if_neg (by omega)] at h
      refine L_reg [0, 1, 17] (fun K hK => ?_)
      simp [okFn_low]
      refine isOrder_ac _ true (by simp [a]) _ _ ?_
      simp [pickV, a4]
      apply hK; clear hK K
      refine L_true rfl ?_
      refine L_reg [4, 5] (fun K hK => ?_)
      simp
      apply hK; clear hK K
      exact L_ret ⟨.inr rfl, _, rfl, h H (.refl _)⟩
    · by_cases a5 : n ≤ k
      · rw [if_neg (by omega), if_neg (by omega)] at h
        refine L_reg [0, 1, 17] (fun K hK => ?_)
        simp [okFn_low]
        refine isOrder_ac _ true (by simp [a]) _ _ ?_
        simp [pickV, a4, a5]
        apply hK; clear hK K
        refine L_true rfl ?_
        refine L_reg [4, 5] (fun K hK => ?_)
        simp
        apply hK; clear hK K
        exact L_ret ⟨.inr rfl, _, rfl, h H (.refl _)⟩
      · rw [if_pos (by omega), if_pos (by omega)] at h
        refine L_reg [0, 1, 17] (fun K hK => ?_)
        simp [okFn_low]
        refine isOrder_ac _ true (by simp [a]) _ _ ?_
        simp [pickV, a4, a5]
        apply hK; clear hK K
        refine L_false rfl ?_
        obtain ⟨m, rfl⟩ : ∃ m : Nat, n = m := ⟨n.toNat, by omega⟩
        obtain ⟨f, rfl⟩ : ∃ f : Nat, k = f := ⟨k.toNat, by omega⟩
        refine L_reg [4, 5] (fun K hK => ?_)
        simp [okFn_low]
        refine begins_ac m (by omega) (by omega) _ _ (fun w H1 hO hE => ?_)
        obtain ⟨rz, pz, vz, hix, hld⟩ := ls_ix hO.own.ls (i := f) (by rw [ern_len]; omega)
        simp [hix, hld]
        apply hK; clear hK K
        exact L_ret ⟨.inr rfl, _, rfl, (by simpa [eb] using h H1 hE)⟩
  · rw [if_neg (by omega), if_neg (by omega)] at h
    refine L_reg [0, 1, 17] (fun K hK => ?_)
    simp [okFn_low]
    refine isOrder_ac _ false (by simp; omega) _ _ ?_
    simp [pickV]
    apply hK; clear hK K
    refine L_true rfl ?_
    refine L_reg [4, 5] (fun K hK => ?_)
    simp
    apply hK; clear hK K
    exact L_ret ⟨.inr rfl, _, rfl, h H (.refl _)⟩
end Go.Proofs.Ytpfkioakjmpimaa

/- Turned round, exchanged, begun elsewhere: the mathematics; and Clone, Reverse. -/
namespace Go.Proofs.Ytpfkioakjmpimaa
open Go Go.Proofs.Ytpfkioakjmpimaa.AX
set_option linter.unusedVariables false
theorem Clone_ex (v : AV) (l : List Int) (H : AH) (hlen : l.length ≤ 1000000) (hv : Ls H v l) : ∃ v' H', OwnF H.length H' v' (l.map (.int .i64)) ∧ Ext H H' ∧ ∀ Q : AV → AH → Prop, Q v' H' → AC Try.prog 52 [v] H Q := by
  obtain ⟨r0, off0, ver0, sz0, full0, hv0, hld⟩ := id hv
  cases r0 with
  | none =>
    have hl0 : l = [] := by
      cases l with
      | nil => rfl
      | cons a l => obtain ⟨r', e, -⟩ := hld 0 (by simp); cases e
    subst hl0
    refine ⟨_, _, .nil _ _, .refl _, fun Q h => ?_⟩
    refine L_body 8 Try.func52 rfl rfl ?_
    refine L_reg [0] (fun K hK => ?_)
    simp
    apply hK; clear hK K
    refine L_reg [0, 4] (fun K hK => ?_)
    simp [hv0, eq_nil]
    apply hK; clear hK K
    refine L_true rfl ?_
    refine L_reg [2] (fun K hK => ?_)
    simp
    apply hK; clear hK K
    exact L_ret ⟨.inr rfl, _, rfl, h⟩
  | some r0 =>
    obtain ⟨v', H', happ, hO, hE⟩ := copy_append (P := Try.prog) el22 el22 hv (by omega)
    refine ⟨v', H', hO, hE, fun Q h => ?_⟩
    rw [hv0] at happ
    refine L_body 8 Try.func52 rfl rfl ?_
    refine L_reg [0] (fun K hK => ?_)
    simp
    apply hK; clear hK K
    refine L_reg [0, 4] (fun K hK => ?_)
    simp [hv0, eq_nil]
    apply hK; clear hK K
    refine L_false rfl ?_
    refine L_reg [2] (fun K hK => ?_)
    simp [happ]
    apply hK; clear hK K
    exact L_ret ⟨.inr rfl, _, rfl, h⟩
/-- What Reverse does to a list that is its own. -/
theorem ReverseA_ac (r ver : Nat) (l : List Int) (H : AH) (Q : AV → AH → Prop) (hlen : l.length ≤ 1000000) (hr : Rw r ver H l) (h : ∀ H', Rw r ver H' l.reverse → KeepX r H H' → Q (.tuple []) H') : AC Try.prog 56 [.slice (some r) 0 l.length ver 1 false] H Q :=
  Reverse_ac false r 0 l.length ver l H Q hr hlen (by omega) fun H' d h1 h2 h3 h4 => by
    have : d = l.reverse := g_ext (by simpa using h1) fun i hi => by
      rw [h2 i (by omega), if_pos (by omega), g_rev (by omega)]; congr 1; omega
    subst this
    exact h H' h3 h4
/-- The list with a cell of a rotated one. -/
theorem g_rot {c : List Int} {k : Nat} (hk : k ≤ c.length) {i : Nat} (hi : i < c.length) : g (c.drop k ++ c.take k) i = if i < c.length - k then g c (k + i) else g c (i - (c.length - k)) := by
  unfold g
  simp only [List.getD_eq_getElem?_getD]
  by_cases h : i < c.length - k
  · rw [if_pos h, List.getElem?_append_left (by simpa using h), List.getElem?_drop]
  · rw [if_neg h, List.getElem?_append_right (by simp; omega), List.getElem?_take, List.length_drop, if_pos (by omega)]
theorem steps_len {r : Bool} {l : List Int} : (stepsS r l).length = (l.length - 1) + if r = true ∧ 1 < l.length then 1 else 0 := by
  unfold stepsS
  split <;> simp [stp]
theorem g_app1 {a b : List Int} {i : Nat} (h : i < a.length) : g (a ++ b) i = g a i := by simp [g, List.getD_eq_getElem?_getD, List.getElem?_append_left h]
theorem g_app2 {a b : List Int} {i : Nat} (h : a.length ≤ i) : g (a ++ b) i = g b (i - a.length) := by simp [g, List.getD_eq_getElem?_getD, List.getElem?_append_right h]
theorem g_stp {l : List Int} {i : Nat} (h : i + 1 < l.length) : g (stp l) i = df (g l i) (g l (i + 1)) := by
  rw [g_lt (by simp [stp]; omega)]; simp [stp]
theorem g_cyc {l : List Int} (h2 : 2 ≤ l.length) {i : Nat} (hi : i < l.length) : g (stepsS true l) i = df (g l i) (g l (if i + 1 = l.length then 0 else i + 1)) := by
  unfold stepsS
  rw [if_pos ⟨rfl, by omega⟩]
  by_cases h : i + 1 = l.length
  · rw [g_app2 (by rw [stp_len]; omega), stp_len, if_pos h, show i - (l.length - 1) = 0 by omega, show l.length - 1 = i by omega]; rfl
  · rw [g_app1 (by rw [stp_len]; omega), if_neg h, g_stp (by omega)]
theorem rot_len {c : List Int} {k : Nat} (hk : k ≤ c.length) : (c.drop k ++ c.take k).length = c.length := by simp; omega
theorem steps_rot {l : List Int} {k : Nat} (hk : k < l.length) : (stepsS true (l.drop k ++ l.take k)).Perm (stepsS true l) := by
  by_cases h2 : 2 ≤ l.length
  · have hr := rot_len (c := l) (k := k) (by omega)
    have hs : (stepsS true l).length = l.length := by rw [steps_len, if_pos ⟨rfl, by omega⟩]; omega
    have e : stepsS true (l.drop k ++ l.take k) = (stepsS true l).drop k ++ (stepsS true l).take k := by
      refine g_ext ?_ fun i hi => ?_
      · rw [rot_len (by omega), steps_len, if_pos ⟨rfl, by omega⟩, hr, hs]; omega
      · rw [steps_len, if_pos ⟨rfl, by omega⟩, hr] at hi
        rw [g_cyc (by omega) (by omega), hr, g_rot (by omega) (by omega : i < (stepsS true l).length), hs]
        rw [g_rot (by omega) (by omega : i < l.length)]
        by_cases c1 : i + 1 = l.length
        · rw [if_pos c1, g_rot (by omega) (by omega : 0 < l.length)]
          rw [if_pos (by omega : 0 < l.length - k)]
          by_cases c2 : i < l.length - k
          · rw [if_pos c2, if_pos c2, g_cyc (by omega) (by omega)]
            rw [if_pos (by omega)]; congr 2; omega
          · rw [if_neg c2, if_neg c2, g_cyc (by omega) (by omega)]
            rw [if_neg (by omega)]; congr 2; omega
        · rw [if_neg c1, g_rot (by omega) (by omega : i + 1 < l.length)]
          by_cases c2 : i + 1 < l.length - k
          · rw [if_pos c2, if_pos (by omega), if_pos (by omega), g_cyc (by omega) (by omega), if_neg (by omega)]
            congr 2
          · rw [if_neg c2]
            by_cases c3 : i < l.length - k
            · rw [if_pos c3, if_pos c3, g_cyc (by omega) (by omega), if_pos (by omega)]; congr 2; omega
            · rw [if_neg c3, if_neg c3, g_cyc (by omega) (by omega), if_neg (by omega)]; congr 2; omega
    rw [e]
    exact List.perm_append_comm.trans (by rw [List.take_append_drop])
  · obtain rfl : k = 0 := by omega
    simp
theorem steps_rev (r : Bool) (l : List Int) : (stepsS r l.reverse).Perm (stepsS r l) := by
  have e : stp l.reverse = (stp l).reverse := g_ext (by simp [stp]) fun i hi => by
    have hi' : i + 1 < l.length := by simp [stp] at hi; omega
    rw [g_stp (by simpa using hi'), g_rev (by omega), g_rev (by omega), g_rev (by rw [stp_len]; omega), stp_len, g_stp (by omega), df_comm]
    congr 2 <;> omega
  unfold stepsS
  rw [e]
  refine List.Perm.append (List.reverse_perm _) ?_
  rw [List.length_reverse]
  split
  · rename_i c
    rw [g_rev (by omega), g_rev (by omega), df_comm, show l.length - 1 - 0 = l.length - 1 by omega, show l.length - 1 - (l.length - 1) = 0 by omega]
  · exact .refl _
/-- What is left to 60. -/
def lt60 (l : List Int) : List Int := l.map fun x => 60 - x
theorem g_lt60 {l : List Int} {i : Nat} (h : i < l.length) : g (lt60 l) i = 60 - g l i := by
  rw [g_lt (by simpa [lt60] using h), g_lt h]; simp [lt60]
theorem df_60 (a b : Int) : df (60 - a) (60 - b) = df a b := by unfold df; omega
theorem steps_60 (r : Bool) (l : List Int) : stepsS r (lt60 l) = stepsS r l := by
  have hl : (lt60 l).length = l.length := by simp [lt60]
  have e : stp (lt60 l) = stp l := g_ext (by simp [stp, hl]) fun i hi => by
    have hi' : i + 1 < l.length := by rw [stp_len, hl] at hi; omega
    rw [g_stp (by omega), g_stp hi', g_lt60 (by omega), g_lt60 (by omega), df_60]
  unfold stepsS
  rw [e, hl]
  split
  · rw [g_lt60 (by omega), g_lt60 (by omega), df_60]
  · rfl
theorem lt60_lt60 (l : List Int) : lt60 (lt60 l) = l := by
  unfold lt60; rw [List.map_map]; conv => rhs; rw [← List.map_id l]
  exact List.map_congr_left fun x _ => by simp; omega
theorem best_60 {c : List Int → Int} (hc : ∀ p, c (lt60 p) = c p) (l : List Int) : c (Arr.bestS c (lt60 l)) = c (Arr.bestS c l) := by
  apply Int.le_antisymm
  · rw [← hc (Arr.bestS c l)]
    exact Arr.best_cost ((Arr.best_is c l).1.map _)
  · rw [← hc (Arr.bestS c (lt60 l))]
    refine Arr.best_cost ?_
    have := (Arr.best_is c (lt60 l)).1.map (fun x => 60 - x)
    have e := lt60_lt60 l
    unfold lt60 at *
    rwa [e] at this
theorem lt60_ok {l : List Int} (h : shE l = 0) : shE (lt60 l) = 0 := by
  obtain ⟨h1, h2, h3⟩ := shE_ok h
  have hl : (lt60 l).length = l.length := by simp [lt60]
  refine shE_all (by omega) (by omega) fun i hi => ?_
  have hi' : i < l.length := by simpa [lt60] using hi
  rw [g_lt60 hi']
  have := h3 _ (gmem hi')
  omega
theorem shE_perm {l m : List Int} (h : m.Perm l) : shE m = shE l := by
  unfold shE
  rw [h.length_eq]
  have : m.all (fun x => decide (0 ≤ x ∧ x ≤ 60)) = l.all (fun x => decide (0 ≤ x ∧ x ≤ 60)) := by
    rw [Bool.eq_iff_iff, List.all_eq_true, List.all_eq_true]
    exact ⟨fun a x hx => a x (h.mem_iff.2 hx), fun a x hx => a x (h.mem_iff.1 hx)⟩
  rw [this]
theorem sum_perm {a b : List Int} (h : a.Perm b) : a.sum = b.sum := by
  induction h with
  | nil => rfl
  | cons x _ ih => simp [ih]
  | swap x y l => simp; omega
  | trans _ _ h1 h2 => omega
theorem gr_perm {a b : List Int} (h : a.Perm b) : gr a = gr b := gr_congr fun x => h.mem_iff
end Go.Proofs.Ytpfkioakjmpimaa

/- Sums over the first numbers. -/
namespace Go.Proofs.Ytpfkioakjmpimaa
open Go Go.Proofs.Ytpfkioakjmpimaa.AX
set_option linter.unusedVariables false
def sumN (f : Nat → Int) : Nat → Int
  | 0 => 0
  | n + 1 => sumN f n + f n
theorem sumN_le {f h : Nat → Int} : ∀ {n : Nat}, (∀ i, i < n → f i ≤ h i) → sumN f n ≤ sumN h n
  | 0, _ => Int.le_refl _
  | n + 1, e => by
    have h1 := sumN_le (f := f) (h := h) (n := n) fun i hi => e i (by omega)
    have h2 := e n (by omega)
    simp only [sumN]; omega
theorem sumN_eq {f h : Nat → Int} : ∀ {n : Nat}, (∀ i, i < n → f i = h i) → sumN f n = sumN h n
  | 0, _ => rfl
  | n + 1, e => by
    have h1 := sumN_eq (f := f) (h := h) (n := n) fun i hi => e i (by omega)
    have h2 := e n (by omega)
    simp only [sumN]; omega
theorem sum_take_N (l : List Int) : ∀ i, i ≤ l.length → (l.take i).sum = sumN (g l) i
  | 0, _ => rfl
  | i + 1, h => by rw [sum_take (by omega), sum_take_N l i (by omega)]; rfl
theorem sum_N (l : List Int) : l.sum = sumN (g l) l.length := by
  have := sum_take_N l l.length (Nat.le_refl _)
  rwa [List.take_length] at this
end Go.Proofs.Ytpfkioakjmpimaa

/- How many turning orders begin with some numbers: the mathematics. -/
namespace Go.Proofs.Ytpfkioakjmpimaa
open Go Go.Proofs.Ytpfkioakjmpimaa.AX
set_option linter.unusedVariables false
/-- How many numbers below k are not in a list. -/
def cn (L : List Int) : Nat → Nat
  | 0 => 0
  | k + 1 => cn L k + if (k : Int) ∈ L then 0 else 1
theorem cn_nil : ∀ k, cn [] k = k
  | 0 => rfl
  | k + 1 => by simp [cn, cn_nil k]
theorem cn_le (L : List Int) : ∀ k, cn L k ≤ k
  | 0 => Nat.le_refl _
  | k + 1 => by have := cn_le L k; simp only [cn]; split <;> omega
theorem cn_mono (L : List Int) : ∀ {j k : Nat}, j ≤ k → cn L j ≤ cn L k
  | j, 0, h => by rw [show j = 0 by omega]; exact Nat.le_refl _
  | j, k + 1, h => by
    by_cases e : j = k + 1
    · rw [e]; exact Nat.le_refl _
    · have := cn_mono L (j := j) (k := k) (by omega)
      simp only [cn]; omega
theorem cn_snoc {b : List Int} {x : Nat} (hx : (x : Int) ∉ b) : ∀ k, cn (b ++ [(x : Int)]) k + (if x < k then 1 else 0) = cn b k
  | 0 => by simp [cn]
  | k + 1 => by
    have := cn_snoc hx k
    simp only [cn, List.mem_append, List.mem_singleton]
    by_cases e : k = x
    · subst e
      rw [if_neg (by omega)] at this
      rw [if_pos (.inr rfl), if_neg hx, if_pos (by omega)]; omega
    · have e' : (k : Int) ≠ x := by omega
      by_cases m : (k : Int) ∈ b
      · rw [if_pos (.inl m), if_pos m]
        by_cases c : x < k
        · rw [if_pos c] at this; rw [if_pos (by omega)]; omega
        · rw [if_neg c] at this; rw [if_neg (by omega)]; omega
      · rw [if_neg (by rintro (h | h); exact m h; exact e' h), if_neg m]
        by_cases c : x < k
        · rw [if_pos c] at this; rw [if_pos (by omega)]; omega
        · rw [if_neg c] at this; rw [if_neg (by omega)]; omega
theorem cn_below {b : List Int} {x : Nat} (hx : (x : Int) ∉ b) : cn (b ++ [(x : Int)]) x = cn b x := by
  have := cn_snoc hx x
  rw [if_neg (by omega)] at this; omega
/-- A sum over the numbers that are left, by their places. -/
theorem sum_left (L : List Int) (f : Nat → Int) : ∀ n, sumN (fun y => if (y : Int) ∈ L then 0 else f (cn L y)) n = sumN f (cn L n)
  | 0 => rfl
  | n + 1 => by
    have ih := sum_left L f n
    simp only [sumN, cn]
    by_cases m : (n : Int) ∈ L
    · rw [if_pos m, if_pos m, ih]; simp
    · rw [if_neg m, if_neg m, ih]; rfl
theorem sum_below (L : List Int) (f : Nat → Int) {x : Nat} (hx : (x : Int) ∈ L) : ∀ n, sumN (fun y => if (y : Int) ∈ L then 0 else if y < x then f (cn L y) else 0) n = sumN f (cn L (min n x))
  | 0 => by simp [sumN, cn]
  | n + 1 => by
    have ih := sum_below L f hx n
    simp only [sumN]
    rw [ih]
    by_cases c : n < x
    · rw [show min n x = n by omega, show min (n + 1) x = n + 1 by omega]
      simp only [cn, if_pos c]
      by_cases m : (n : Int) ∈ L
      · rw [if_pos m, if_pos m]; simp
      · rw [if_neg m, if_neg m]; rfl
    · rw [show min n x = x by omega, show min (n + 1) x = x by omega, if_neg c]
      split <;> simp
theorem sumN_add (f h : Nat → Int) : ∀ n, sumN (fun y => f y + h y) n = sumN f n + sumN h n
  | 0 => rfl
  | n + 1 => by simp only [sumN]; rw [sumN_add f h n]; omega
theorem sum_above (L : List Int) (f : Nat → Int) {x n : Nat} (hx : (x : Int) ∈ L) (hn : x < n) : sumN (fun y => if (y : Int) ∈ L then 0 else if x < y then f (cn L y) else 0) n = sumN f (cn L n) - sumN f (cn L x) := by
  have h1 := sum_left L f n
  have h2 := sum_below L f hx n
  rw [show min n x = x by omega] at h2
  have h3 := sumN_add (fun y => if (y : Int) ∈ L then 0 else if y < x then f (cn L y) else 0) (fun y => if (y : Int) ∈ L then 0 else if x < y then f (cn L y) else 0) n
  have h4 : sumN (fun y => (if (y : Int) ∈ L then 0 else if y < x then f (cn L y) else 0) + (if (y : Int) ∈ L then 0 else if x < y then f (cn L y) else 0)) n = sumN (fun y => if (y : Int) ∈ L then 0 else f (cn L y)) n := sumN_eq fun y _ => by
    by_cases m : (y : Int) ∈ L
    · simp [m]
    · rw [if_neg m, if_neg m, if_neg m]
      rcases Nat.lt_trichotomy x y with c | c | c
      · rw [if_neg (by omega), if_pos c]; omega
      · subst c; exact absurd hx m
      · rw [if_pos c, if_neg (by omega)]; omega
  omega
/-- Sums from the other end. -/
theorem sum_flip (f : Nat → Int) (d : Nat) : ∀ r, r ≤ d → sumN (fun j => f (d - 1 - j)) d - sumN (fun j => f (d - 1 - j)) r = sumN f (d - r) := by
  have : ∀ k, k ≤ d → sumN (fun j => f (d - 1 - j)) d - sumN (fun j => f (d - 1 - j)) (d - k) = sumN f k := by
    intro k
    induction k with
    | zero => intro _; simp [sumN]
    | succ k ih =>
      intro hk
      have h1 := ih (by omega)
      have e : sumN (fun j => f (d - 1 - j)) (d - k) = sumN (fun j => f (d - 1 - j)) (d - (k + 1)) + f k := by
        rw [show d - k = (d - (k + 1)) + 1 by omega]
        simp only [sumN]
        congr 2; omega
      simp only [sumN]; omega
  intro r hr
  have h := this (d - r) (by omega)
  rwa [show d - (d - r) = r by omega] at h
/-- The place, among the numbers left, of the one that begins them: from below, or from above. -/
def rkS (n : Nat) (b : List Int) (x : Nat) : Nat := if b.length % 2 = 1 then n - b.length - 1 - cn b x else cn b x
/-- How many turning orders begin with some numbers and the next one. -/
def folS (n : Nat) (b : List Int) (x : Nat) : Int := if (x : Int) ∈ b ∨ altB (b ++ [(x : Int)]) = false then 0 else eb (n - b.length) (rkS n b x)
/-- The same, as the reference counts them. -/
def cntS (n : Nat) : Nat → List Int → Int
  | 0, b => if altB b = false then 0 else 1
  | d + 1, b => if altB b = false then 0 else sumN (fun x => if (x : Int) ∈ b then 0 else cntS n d (b ++ [(x : Int)])) n
/-- Numbers of an order that has begun. -/
structure Beg (n : Nat) (b : List Int) : Prop where
  nd : b.Nodup
  lt : ∀ x ∈ b, 0 ≤ x ∧ x < n
  cn : cn b n + b.length = n
theorem Beg.nil (n : Nat) : Beg n [] := ⟨.nil, by simp, by simp [cn_nil]⟩
theorem Beg.snoc {n : Nat} {b : List Int} (h : Beg n b) {x : Nat} (hx : x < n) (hm : (x : Int) ∉ b) : Beg n (b ++ [(x : Int)]) where
  nd := by
    rw [List.nodup_append]
    exact ⟨h.nd, by simp, fun a ha c hc e => by rw [List.mem_singleton.1 hc] at e; rw [e] at ha; exact hm ha⟩
  lt y hy := by
    rcases List.mem_append.1 hy with hy | hy
    · exact h.lt y hy
    · rw [List.mem_singleton.1 hy]; omega
  cn := by
    have h1 := cn_snoc hm n
    rw [if_pos hx] at h1
    have h2 := h.cn
    simp; omega
theorem alt_snoc {b : List Int} {x y : Int} : altB (b ++ [x] ++ [y]) = (altB (b ++ [x]) && if b.length % 2 = 0 then decide (x < y) else decide (y < x)) := by
  unfold altB
  rw [show (b ++ [x] ++ [y]).length - 1 = ((b ++ [x]).length - 1) + 1 by simp, List.range_succ, List.all_append]
  have e1 : (List.range ((b ++ [x]).length - 1)).all (altAt (b ++ [x] ++ [y])) = (List.range ((b ++ [x]).length - 1)).all (altAt (b ++ [x])) := by
    rw [Bool.eq_iff_iff, List.all_eq_true, List.all_eq_true]
    have : ∀ i ∈ List.range ((b ++ [x]).length - 1), altAt (b ++ [x] ++ [y]) i = altAt (b ++ [x]) i := fun i hi => by
      have := List.mem_range.1 hi
      unfold altAt
      rw [g_app1 (a := b ++ [x]) (by omega), g_app1 (a := b ++ [x]) (by omega)]
    exact ⟨fun h i hi => by rw [← this i hi]; exact h i hi, fun h i hi => by rw [this i hi]; exact h i hi⟩
  rw [e1]
  congr 1
  have e2 : (b ++ [x]).length - 1 = b.length := by simp
  rw [e2]
  simp only [List.all_cons, List.all_nil, Bool.and_true]
  unfold altAt
  rw [g_app1 (a := b ++ [x]) (by simp), g_app2 (a := b) (Nat.le_refl _), g_app2 (a := b ++ [x]) (by simp)]
  simp [g]
theorem cnt_fol (n : Nat) : ∀ (d : Nat) (b : List Int) (x : Nat), Beg n b → b.length + 1 + d = n → x < n → (x : Int) ∉ b → cntS n d (b ++ [(x : Int)]) = folS n b x
  | 0, b, x, h, hd, hx, hm => by
    unfold cntS folS
    cases ha : altB (b ++ [(x : Int)]) with
    | false => simp
    | true =>
      have hr : rkS n b x = 0 := by
        have h1 := h.cn
        have h2 := cn_mono b (j := x + 1) (k := n) (by omega)
        have h3 : cn b (x + 1) = cn b x + 1 := by simp [cn, hm]
        unfold rkS; split <;> omega
      rw [if_neg (by simp), if_neg (by simp [hm]), hr, show n - b.length = 1 by omega]; rfl
  | d + 1, b, x, h, hd, hx, hm => by
    have hB := h.snoc hx hm
    have hL : (b ++ [(x : Int)]).length = b.length + 1 := by simp
    unfold cntS
    cases ha : altB (b ++ [(x : Int)]) with
    | false => unfold folS; simp [ha]
    | true =>
      rw [if_neg (by simp)]
      have hc := hB.cn
      have hcb := cn_below hm
      have hxB : (x : Int) ∈ b ++ [(x : Int)] := by simp
      have hlen : n - b.length = (d + 1) + 1 := by omega
      have hF : folS n b x = ((ern d).take (d + 1 - rkS n b x)).sum := by
        unfold folS
        rw [if_neg (by simp [hm, ha])]
        unfold eb
        rw [hlen, show d + 1 + 1 - 1 = d + 1 by omega, ern_g]
        have h1 := h.cn
        have h2 := cn_mono b (j := x + 1) (k := n) (by omega)
        have h3 : cn b (x + 1) = cn b x + 1 := by simp [cn, hm]
        unfold rkS; split <;> omega
      rw [hF, sum_take_N _ _ (by rw [ern_len]; omega)]
      have ih : ∀ y, y < n → (y : Int) ∉ b ++ [(x : Int)] → cntS n d (b ++ [(x : Int)] ++ [(y : Int)]) = if (if b.length % 2 = 0 then x < y else y < x) then g (ern d) (rkS n (b ++ [(x : Int)]) y) else 0 := fun y hy hny => by
        rw [cnt_fol n d (b ++ [(x : Int)]) y hB (by omega) hy hny]
        unfold folS eb
        rw [alt_snoc, ha, hL, show n - (b.length + 1) - 1 = d by omega]
        by_cases c : b.length % 2 = 0
        · simp only [if_pos c, Bool.true_and]
          by_cases e : x < y
          · rw [if_neg (by simp [hny]; omega), if_pos e]
          · rw [if_pos (by right; simp; omega), if_neg e]
        · simp only [if_neg c, Bool.true_and]
          by_cases e : y < x
          · rw [if_neg (by simp [hny]; omega), if_pos e]
          · rw [if_pos (by right; simp; omega), if_neg e]
      have hsum : sumN (fun y => if (y : Int) ∈ b ++ [(x : Int)] then 0 else cntS n d (b ++ [(x : Int)] ++ [(y : Int)])) n = sumN (fun y => if (y : Int) ∈ b ++ [(x : Int)] then 0 else if (if b.length % 2 = 0 then x < y else y < x) then g (ern d) (rkS n (b ++ [(x : Int)]) y) else 0) n := sumN_eq fun y hy => by
        by_cases m : (y : Int) ∈ b ++ [(x : Int)]
        · rw [if_pos m, if_pos m]
        · rw [if_neg m, if_neg m, ih y hy m]
      rw [hsum]
      by_cases c : b.length % 2 = 0
      · simp only [if_pos c]
        have hrk : ∀ y, rkS n (b ++ [(x : Int)]) y = d - cn (b ++ [(x : Int)]) y := fun y => by
          unfold rkS; rw [hL, if_pos (by omega)]; omega
        simp only [hrk]
        rw [sum_above (b ++ [(x : Int)]) (fun j => g (ern d) (d - j)) hxB hx, show cn (b ++ [(x : Int)]) n = d + 1 by omega, hcb]
        have := sum_flip (fun j => g (ern d) j) (d + 1) (cn b x) (by have := cn_mono (b ++ [(x : Int)]) (j := x) (k := n) (by omega); omega)
        rw [show d + 1 - 1 = d by omega] at this
        rw [this]
        unfold rkS; rw [if_neg (by omega)]
      · simp only [if_neg c]
        have hrk : ∀ y, rkS n (b ++ [(x : Int)]) y = cn (b ++ [(x : Int)]) y := fun y => by
          unfold rkS; rw [hL, if_neg (by omega)]
        simp only [hrk]
        rw [sum_below (b ++ [(x : Int)]) (fun j => g (ern d) j) hxB n, show min n x = x by omega, hcb]
        congr 1
        have := cn_mono (b ++ [(x : Int)]) (j := x) (k := n) (by omega)
        unfold rkS; rw [if_pos (by omega)]; omega
end Go.Proofs.Ytpfkioakjmpimaa

/- Orders: what is contained, smaller, joined, following; and the reference's count. -/
namespace Go.Proofs.Ytpfkioakjmpimaa
open Go Go.Proofs.Ytpfkioakjmpimaa.AX
set_option linter.unusedVariables false
theorem idx_in {x : Int} {l : List Int} : decide (0 ≤ idx x l) = decide (x ∈ l) := by
  apply decide_eq_decide.2
  constructor
  · intro h
    obtain ⟨p, hp⟩ : ∃ p : Nat, idx x l = p := ⟨(idx x l).toNat, by omega⟩
    obtain ⟨h1, h2⟩ := idx_get hp
    rw [← h2]; exact gmem h1
  · exact idx_mem
theorem Contains_ac (v : AV) (l : List Int) (x : Int) (H : AH) (Q : AV → AH → Prop) (hlen : l.length ≤ 1000000) (hv : Ls H v l) (h : Q (.bool (decide (x ∈ l))) H) : AC Try.prog 75 [v, .int .i64 x] H Q := by
  refine L_body 9 Try.func75 rfl rfl ?_
  refine L_reg [0, 1] (fun K hK => ?_)
  simp
  apply hK; clear hK K
  refine L_reg [4] (fun K hK => ?_)
  simp [okFn_low]
  refine Index_ac v l x _ _ hlen hv ?_
  simp
  apply hK; clear hK K
  rw [← idx_in] at h
  exact L_ret ⟨.inr rfl, _, rfl, h⟩
/-- How many are smaller. -/
def smS (l : List Int) (x : Int) : Nat := (l.filter fun y => decide (y < x)).length
theorem sm_take {l : List Int} {i : Nat} {x : Int} (h : i < l.length) : smS (l.take (i + 1)) x = smS (l.take i) x + if g l i < x then 1 else 0 := by
  unfold smS
  rw [List.take_add_one, List.getElem?_eq_getElem h, ← g_lt h, List.filter_append, List.length_append]
  congr 1
  by_cases c : g l i < x <;> simp [c]
theorem smaller7_ac (v : AV) (l : List Int) (x : Int) (H : AH) (Q : AV → AH → Prop) (hlen : l.length ≤ 1000000) (hv : Ls H v l) (h : Q (.int .i64 (smS l x)) H) : AC Try.prog 104 [v, .int .i64 x] H Q := by
  have hl := ls_len hv
  refine L_body 21 Try.func104 rfl rfl ?_
  refine L_reg [0, 1] (fun K hK => ?_)
  simp
  apply hK; clear hK K
  refine L_reg [0, 1, 5] (fun K hK => ?_)
  simp
  apply hK; clear hK K
  refine L_reg [1, 5, 8, 9, 10] (fun K hK => ?_)
  simp [hl]
  apply hK; clear hK K
  refine L_block (L_loopV [5, 10] (fun n vs H' => ∃ i : Nat, n = l.length - i ∧ i ≤ l.length ∧ vs = [.int .i64 (smS (l.take i) x), .int .i64 i] ∧ H = H') _ [.int .i64 0, .int .i64 0] rfl ⟨0, rfl, by omega, rfl, rfl⟩ ?_)
  rintro n _ _ ⟨i, rfl, hi, rfl, rfl⟩
  refine L_reg [1, 5, 8, 9, 10, 11] (fun K hK => ?_)
  simp
  apply hK; clear hK K
  refine L_dec (i < l.length) (by simp) (fun hlt => ?_) (fun hge => L_exit ?_)
  · refine L_block ?_
    obtain ⟨rz, pz, vz, hix, hld⟩ := ls_ix hv hlt
    have hs := sm_take (x := x) hlt
    have hle : smS (l.take i) x ≤ i := by
      unfold smS
      exact Nat.le_trans (List.length_filter_le ..) (by simp; omega)
    refine L_reg [1, 5, 7, 8, 9, 10] (fun K hK => ?_)
    simp [hix, hld]
    apply hK; clear hK K
    refine L_reg [1, 5, 8, 9, 10, 16] (fun K hK => ?_)
    simp
    apply hK; clear hK K
    by_cases c : g l i < x
    · rw [if_pos c] at hs
      refine L_true (by simp [c]) ?_
      refine L_reg [1, 5, 8, 9, 10] (fun K hK => ?_)
      simp [wrap_i64 (a := (smS (l.take i) x : Int) + 1) (by omega)]
      apply hK; clear hK K
      refine L_reg [1, 5, 8, 9, 10] (fun K hK => ?_)
      simp [wrap_i64 (a := (i : Int) + 1) (by omega)]
      apply hK; clear hK K
      exact ⟨l.length - (i + 1), [.int .i64 (smS (l.take (i + 1)) x : Nat), .int .i64 (i + 1 : Nat)], by omega, by simp [hs], i + 1, rfl, by omega, rfl, rfl⟩
    · rw [if_neg c] at hs
      refine L_false (by simp only [c]; simp) ?_
      refine L_reg [1, 5, 8, 9, 10] (fun K hK => ?_)
      simp [wrap_i64 (a := (i : Int) + 1) (by omega)]
      apply hK; clear hK K
      exact ⟨l.length - (i + 1), [.int .i64 (smS (l.take (i + 1)) x : Nat), .int .i64 (i + 1 : Nat)], by omega, by simp [hs], i + 1, rfl, by omega, rfl, rfl⟩
  · rw [List.take_of_length_le (by omega)]
    refine L_reg [4] (fun K hK => ?_)
    simp
    apply hK; clear hK K
    exact L_ret ⟨.inr rfl, _, rfl, h⟩
set_option maxRecDepth 100000 in
/-- Grow makes an empty slice with room. -/
theorem Grow_nil_ac (n : Nat) (h1 : 1 ≤ n) (h2 : n ≤ 1000) (H : AH) (Q : AV → AH → Prop) (h : Q (.slice (some H.length) 0 0 0 1 false) (H ++ [.row (List.replicate n (.int .i64 0)) 0 0 false])) : AC Try.prog 111 [.slice none 0 0 0 1 false, .int .i64 n] H Q := by
  refine L_body 27 Try.func111 rfl rfl ?_
  refine L_reg [0, 1] (fun K hK => ?_)
  simp
  apply hK; clear hK K
  refine L_reg [0, 1, 6] (fun K hK => ?_)
  simp
  apply hK; clear hK K
  refine L_false (by simp) ?_
  have hcap := cap_nil (P := Try.prog) slz22 0 0 0 1 false
  have hw : IntKind.i64.wrap ((n : Int) - IntKind.i64.wrap 0) = n := by rw [wrap_i64 (a := 0) (by omega), wrap_i64 (by omega)]; omega
  refine L_reg [0, 1] (fun K hK => ?_)
  simp [hcap, hw]
  apply hK; clear hK K
  refine L_reg [0, 1, 16] (fun K hK => ?_)
  simp
  apply hK; clear hK K
  refine L_true (by simp; omega) ?_
  have ha : aAppMake Try.prog H 22 3 (.slice none 0 0 0 1 false) (.int .i64 n) = some (.slice (some H.length) 0 n 0 1 false, H ++ [.row (List.replicate n (.int .i64 0)) 0 0 false]) := by
    obtain ⟨I, hI, hz⟩ := zeroT_some zt3
    have hsz : I.size = 1 ∧ I.bytes ≤ 4096 := by
      obtain ⟨e, I', e1, e2, e3, e4, -⟩ := elT_some el22
      have : Try.prog.underlying 22 = some (.slice 3) := und22
      rw [this] at e1
      obtain rfl : 3 = e := by simpa using e1
      rw [e2] at hI
      obtain rfl := Option.some.inj hI
      exact ⟨e3, e4⟩
    unfold aAppMake
    rw [und22]
    rw [Try.underlying3]
    simp [hI, hz, hsz]
    refine ⟨⟨by omega, by omega⟩, List.eq_replicate_iff.2 ⟨by simp, fun b hb => ?_⟩⟩
    obtain ⟨i, -, rfl⟩ := List.mem_map.1 hb
    simp [Nat.mod_one]
  have hn : aAppend Try.prog H 22 3 (.slice none 0 0 0 1 false) (.int .i64 n) = none := by
    obtain ⟨e, I, e1, e2, e3, e4, -⟩ := elT_some el22
    simp [aAppend, e1, e2, e3, e4, aSrc, Try.underlying3]
  have hs1 : aSlice Try.prog 22 (.slice none 0 0 0 1 false) none (some (.int .i64 0)) none = some (.slice none 0 0 0 1 false) := by
    have := slice_hi (P := Try.prog) slz22 none 0 0 0 false (k := .i64) (i := 0) (by omega)
    simpa using this
  have hs2 : aSlice Try.prog 22 (.slice (some H.length) 0 n 0 1 false) none (some (.int .i64 0)) none = some (.slice (some H.length) 0 0 0 1 false) := by
    have := slice_hi (P := Try.prog) slz22 (some H.length) 0 n 0 false (k := .i64) (i := 0) (by omega)
    simpa using this
  refine L_reg [0] (fun K hK => ?_)
  simp [hcap, hs1, ha, hn, hs2, orApp, appV]
  apply hK; clear hK K
  refine L_reg [4] (fun K hK => ?_)
  simp
  apply hK; clear hK K
  exact L_ret ⟨.inr rfl, _, rfl, h⟩
end Go.Proofs.Ytpfkioakjmpimaa

/- Orders: lists are joined. -/
namespace Go.Proofs.Ytpfkioakjmpimaa
open Go Go.Proofs.Ytpfkioakjmpimaa.AX
set_option linter.unusedVariables false
theorem tk_rep : ∀ (n k : Nat), n ≤ k → (takeKnown n (List.replicate k (AV.int .i64 0))).isSome = true
  | 0, _, _ => by simp [takeKnown]
  | n + 1, k, h => by
    obtain ⟨j, rfl⟩ : ∃ j, k = j + 1 := ⟨k - 1, by omega⟩
    have := tk_rep n j (by omega)
    simp only [List.replicate_succ, takeKnown]
    cases h : takeKnown n (List.replicate j (AV.int .i64 0)) with
    | none => rw [h] at this; cases this
    | some x => simp
/-- A slice with room behind it. -/
def Room (r : Nat) (a : List Int) (k : Nat) (H : AH) : Prop := ∃ st, H[r]? = some (.row (a.map (.int .i64) ++ List.replicate k (.int .i64 0)) 0 st false)
theorem Room.app {r : Nat} {a m : List Int} {k : Nat} {H : AH} {x : AV} (h : Room r a k H) (hx : Ls H x m) (hk : m.length ≤ k) (hl : a.length + m.length ≤ 1000) :
    ∃ H', aAppend Try.prog H 22 22 (.slice (some r) 0 a.length 0 1 false) x = some (.slice (some r) 0 (a.length + m.length) 0 1 false, H') ∧ Room r (a ++ m) (k - m.length) H' ∧ KeepX r H H' := by
  obtain ⟨e, I, h1, h2, h3, h4, -⟩ := elT_some el22
  have hsrc := src_ls el22 hx
  have hall := all_ints m
  by_cases c : m = []
  · subst c
    refine ⟨H, ?_, by simpa using h, .refl _ _⟩
    simp at hsrc
    simp [aAppend, h1, h2, h3, h4, hsrc]
  · obtain ⟨st, hr⟩ := h
    have hm0 : m.length ≠ 0 := fun e => c (List.eq_nil_of_length_eq_zero e)
    have hd : (a.map (AV.int .i64) ++ List.replicate k (AV.int .i64 0)).drop a.length = List.replicate k (.int .i64 0) := by
      rw [List.drop_append]; simp
    have ht : (a.map (AV.int .i64) ++ List.replicate k (AV.int .i64 0)).take a.length = a.map (.int .i64) := by
      rw [List.take_append_of_le_length (by simp), List.take_of_length_le (by simp)]
    have hd2 : (a.map (AV.int .i64) ++ List.replicate k (AV.int .i64 0)).drop (a.length + m.length) = List.replicate (k - m.length) (.int .i64 0) := by
      rw [← List.drop_drop, hd]; simp
    have hstn : stn H r 0 (m.map (.int .i64)) a.length = some (H.set r (.row ((a ++ m).map (.int .i64) ++ List.replicate (k - m.length) (.int .i64 0)) 0 (min st a.length) false)) := by
      cases m with
      | nil => exact absurd rfl c
      | cons y m =>
        rw [List.map_cons]
        unfold stn
        rw [hr]
        simp only []
        rw [if_pos ⟨trivial, trivial, by simpa using hall, by rw [hd]; exact tk_rep _ _ (by simpa using hk)⟩, ht, show (AV.int .i64 y :: m.map (AV.int .i64)).length = (y :: m).length by simp, hd2]
        simp
    refine ⟨H.set r (.row ((a ++ m).map (.int .i64) ++ List.replicate (k - m.length) (.int .i64 0)) 0 (min st a.length) false), ?_, ⟨min st a.length, get_set hr⟩, (KeepX.refl r H).set _⟩
    have hin : inPlace H r 0 a.length m.length 0 1 (m.map (.int .i64)) = some (H.set r (.row ((a ++ m).map (.int .i64) ++ List.replicate (k - m.length) (.int .i64 0)) 0 (min st a.length) false)) := by
      unfold inPlace
      rw [hr]
      simp only []
      rw [if_pos ⟨trivial, by simp; omega⟩]
      simpa using hstn
    have hs2 : a.length + m.length ≤ 16777216 := by omega
    simp [aAppend, h1, h2, h3, h4, hsrc, c, hin, hs2]
    exact fun _ _ => rfl
set_option maxRecDepth 100000 in
theorem Concat2_ac (x y : AV) (a b : List Int) (p : Nat) (H : AH) (Q : AV → AH → Prop) (h1 : 1 ≤ a.length + b.length) (hl : a.length + b.length ≤ 100) (hx : Ls H x a) (hy : Ls H y b) (hp : ∃ m, H[p]? = some (.row [x, y] 0 m false))
    (h : ∀ v H', OwnF H.length H' v ((a ++ b).map (.int .i64)) → Ext H H' → Q v H') : AC Try.prog 103 [.slice (some p) 0 2 0 1 false] H Q := by
  obtain ⟨mm, hp⟩ := hp
  have ox : x.one = true := by obtain ⟨_, _, _, _, _, rfl, -⟩ := hx; rfl
  have oy : y.one = true := by obtain ⟨_, _, _, _, _, rfl, -⟩ := hy; rfl
  have q0 : ∀ H', H'[p]? = some (.row [x, y] 0 mm false) → ld H' p 0 0 = some x := fun H' h => by rw [ld_row h]; exact known_one ox
  have q1 : ∀ H', H'[p]? = some (.row [x, y] 0 mm false) → ld H' p 1 0 = some y := fun H' h => by rw [ld_row h]; exact known_one oy
  have hxl := ls_len hx
  have hyl := ls_len hy
  refine L_body 36 Try.func103 rfl rfl ?_
  refine L_reg [0] (fun K hK => ?_)
  simp
  apply hK; clear hK K
  refine L_reg [0, 3] (fun K hK => ?_)
  simp
  apply hK; clear hK K
  refine L_reg [0, 3, 9, 10, 11] (fun K hK => ?_)
  simp
  apply hK; clear hK K
  refine L_block (L_loopV [3, 11] (fun n vs H' => ∃ i : Nat, n = 2 - i ∧ i ≤ 2 ∧ vs = [.int .i64 ((if 0 < i then a.length else 0) + (if 1 < i then b.length else 0) : Nat), .int .i64 i] ∧ H = H') _ [.int .i64 0, .int .i64 0] rfl ⟨0, rfl, by omega, rfl, rfl⟩ ?_)
  rintro _ _ _ ⟨i, rfl, hi, rfl, rfl⟩
  refine L_reg [0, 3, 9, 10, 11, 12] (fun K hK => ?_)
  simp
  apply hK; clear hK K
  refine L_dec (i < 2) (by simp; omega) (fun hlt => ?_) (fun hge => L_exit ?_)
  · refine L_block ?_
    obtain rfl | rfl : i = 0 ∨ i = 1 := by omega
    · refine L_reg [0, 3, 5, 9, 10, 11] (fun K hK => ?_)
      simp [q0 H hp]
      apply hK; clear hK K
      refine L_reg [0, 3, 9, 10, 11] (fun K hK => ?_)
      simp [hxl, wrap_i64 (a := (a.length : Int)) (by omega)]
      apply hK; clear hK K
      refine L_reg [0, 3, 9, 10, 11, 20] (fun K hK => ?_)
      simp
      apply hK; clear hK K
      refine L_false (by simp) ?_
      refine L_reg [0, 3, 9, 10, 11] (fun K hK => ?_)
      simp [wrap_i64 (a := (1 : Int)) (by omega)]
      apply hK; clear hK K
      exact ⟨1, [.int .i64 a.length, .int .i64 1], by omega, by simp, 1, rfl, by omega, by simp, rfl⟩
    · refine L_reg [0, 3, 5, 9, 10, 11] (fun K hK => ?_)
      simp [q1 H hp]
      apply hK; clear hK K
      refine L_reg [0, 3, 9, 10, 11] (fun K hK => ?_)
      simp [hyl, wrap_i64 (a := (a.length : Int) + b.length) (by omega)]
      apply hK; clear hK K
      refine L_reg [0, 3, 9, 10, 11, 20] (fun K hK => ?_)
      simp
      apply hK; clear hK K
      refine L_false (by simp; omega) ?_
      refine L_reg [0, 3, 9, 10, 11] (fun K hK => ?_)
      simp [wrap_i64 (a := (2 : Int)) (by omega)]
      apply hK; clear hK K
      exact ⟨0, [.int .i64 ((a.length : Int) + b.length), .int .i64 2], by omega, by simp, 2, rfl, by omega, by simp, rfl⟩
  obtain rfl : i = 2 := by omega
  refine L_reg [0, 6] (fun K hK => ?_)
  simp [okFn_low]
  refine Grow_nil_ac (a.length + b.length) h1 (by omega) _ _ ?_
  simp
  apply hK; clear hK K
  have hE : Ext H (H ++ [.row (List.replicate (a.length + b.length) (.int .i64 0)) 0 0 false]) := .push _ _
  have hR : Room H.length [] (a.length + b.length) (H ++ [.row (List.replicate (a.length + b.length) (.int .i64 0)) 0 0 false]) := ⟨0, by simp⟩
  generalize H ++ [.row (List.replicate (a.length + b.length) (.int .i64 0)) 0 0 false] = H1 at hE hR ⊢
  have hpl : p < H.length := (List.getElem?_eq_some_iff.1 hp).1
  obtain ⟨H2, a1, hR2, k2⟩ := hR.app (hx.ext hE) (by omega) (by simp only [List.length_nil]; omega)
  have hE2 : Ext H H2 := ((KeepX.refl H.length H1).trans k2).new hE (Nat.le_refl _)
  rw [List.nil_append] at hR2
  simp only [List.length_nil, Nat.zero_add] at a1
  obtain ⟨H3, a2, hR3, k3⟩ := hR2.app (hy.ext hE2) (by omega) (by omega)
  have hE3 : Ext H H3 := ((KeepX.refl H.length H2).trans k3).new hE2 (Nat.le_refl _)
  refine L_reg [6, 25, 26, 27] (fun K hK => ?_)
  simp
  apply hK; clear hK K
  refine L_block (L_loopV [6, 27] (fun n vs H' => ∃ i : Nat, n = 2 - i ∧ ((i = 0 ∧ vs = [.slice (some H.length) 0 0 0 1 false, .int .i64 0] ∧ H' = H1) ∨ (i = 1 ∧ vs = [.slice (some H.length) 0 a.length 0 1 false, .int .i64 1] ∧ H' = H2) ∨ (i = 2 ∧ vs = [.slice (some H.length) 0 (a.length + b.length) 0 1 false, .int .i64 2] ∧ H' = H3))) _ [.slice (some H.length) 0 0 0 1 false, .int .i64 0] rfl ⟨0, rfl, .inl ⟨rfl, rfl, rfl⟩⟩ ?_)
  rintro _ _ H' ⟨i, rfl, ⟨rfl, rfl, rfl⟩ | ⟨rfl, rfl, rfl⟩ | ⟨rfl, rfl, rfl⟩⟩
  · refine L_reg [6, 25, 26, 27, 28] (fun K hK => ?_)
    simp
    apply hK; clear hK K
    refine L_true rfl ?_
    refine L_block ?_
    refine L_reg [6, 8, 25, 26, 27] (fun K hK => ?_)
    simp [q0 _ (hE.row hp)]
    apply hK; clear hK K
    refine L_reg [6, 25, 26, 27] (fun K hK => ?_)
    simp [a1]
    apply hK; clear hK K
    refine L_reg [6, 25, 26, 27] (fun K hK => ?_)
    simp [wrap_i64 (a := (1 : Int)) (by omega)]
    apply hK; clear hK K
    exact ⟨1, [_, _], by omega, rfl, 1, rfl, .inr (.inl ⟨rfl, by simp, rfl⟩)⟩
  · refine L_reg [6, 25, 26, 27, 28] (fun K hK => ?_)
    simp
    apply hK; clear hK K
    refine L_true rfl ?_
    refine L_block ?_
    refine L_reg [6, 8, 25, 26, 27] (fun K hK => ?_)
    simp [q1 _ (hE2.row hp)]
    apply hK; clear hK K
    refine L_reg [6, 25, 26, 27] (fun K hK => ?_)
    simp [a2]
    apply hK; clear hK K
    refine L_reg [6, 25, 26, 27] (fun K hK => ?_)
    simp [wrap_i64 (a := (2 : Int)) (by omega)]
    apply hK; clear hK K
    exact ⟨0, [_, _], by omega, rfl, 2, rfl, .inr (.inr ⟨rfl, by simp, rfl⟩)⟩
  · refine L_reg [6, 25, 26, 27, 28] (fun K hK => ?_)
    simp
    apply hK; clear hK K
    refine L_false rfl ?_
    refine L_exit ?_
    refine L_reg [2] (fun K hK => ?_)
    simp
    apply hK; clear hK K
    obtain ⟨st, hst⟩ := hR3
    have hfin := h (.slice (some H.length) 0 (a.length + b.length) 0 1 false) _ (.inr ⟨H.length, 0, st, Nat.le_refl _, by simp, by simpa [show a.length + b.length - a.length - b.length = 0 by omega] using hst⟩) hE3
    exact L_ret ⟨.inr rfl, _, rfl, hfin⟩
end Go.Proofs.Ytpfkioakjmpimaa

/- Orders: how many begin with some numbers and the next one, as the program finds it. -/
namespace Go.Proofs.Ytpfkioakjmpimaa
open Go Go.Proofs.Ytpfkioakjmpimaa.AX
set_option linter.unusedVariables false
theorem row62_2 (H : AH) (x y : AV) (hx : x.one = true) (hy : y.one = true) : rowV Try.prog 62 2 [(0, x), (1, y)] H = some (some (.slice (some H.length) 0 2 0 1 false), H ++ [.row [x, y] 0 2 false]) := by
  have hc : ∀ {v : AV}, v.one = true → acells v = [v] := fun {v} h => by cases v <;> simp [AV.one] at h <;> rfl
  obtain ⟨e, I, h1, h2, h3, h4, hzz⟩ := elT_some el62
  have hu : ∀ {v : AV}, v.one = true → v.isU = false := fun {v} h => by cases v <;> simp_all [AV.one, AV.isU]
  simp [rowV, h1, h2, h3, aFill, hu hx, hu hy, hc hx, hc hy, hzz, List.range_succ]
theorem joined_ac (x y : AV) (a b : List Int) (H : AH) (Q : AV → AH → Prop) (h1 : 1 ≤ a.length + b.length) (hl : a.length + b.length ≤ 100) (hx : Ls H x a) (hy : Ls H y b)
    (h : ∀ v H', OwnF H.length H' v ((a ++ b).map (.int .i64)) → Ext H H' → Q v H') : AC Try.prog 84 [x, y] H Q := by
  have ox : x.one = true := by obtain ⟨_, _, _, _, _, rfl, -⟩ := hx; rfl
  have oy : y.one = true := by obtain ⟨_, _, _, _, _, rfl, -⟩ := hy; rfl
  refine L_body 9 Try.func84 rfl rfl ?_
  refine L_reg [0, 1] (fun K hK => ?_)
  simp
  apply hK; clear hK K
  have hE : Ext H (H ++ [AObj.row [x, y] 0 2 false]) := .push _ _
  refine L_reg [4] (fun K hK => ?_)
  simp [okFn_low, row62_2 H x y ox oy]
  refine Concat2_ac x y a b H.length _ _ h1 hl (hx.ext hE) (hy.ext hE) ⟨2, by simp⟩ (fun v H' hO hE' => ?_)
  simp
  apply hK; clear hK K
  exact L_ret ⟨.inr rfl, _, rfl, (h v H' (hO.mono (by simp)) (hE.trans hE'))⟩
theorem sm_succ (x : Nat) : ∀ b : List Int, smS b ((x : Int) + 1) = smS b x + b.count (x : Int)
  | [] => rfl
  | y :: b => by
    have ih := sm_succ x b
    unfold smS at *
    rw [List.count_cons]
    by_cases c : y < x
    · have e : ¬ y = x := by omega
      rw [List.filter_cons_of_pos (by simp; omega), List.filter_cons_of_pos (by simpa using c)]
      simp [e]; omega
    · by_cases e : y = x
      · rw [List.filter_cons_of_pos (by simp; omega), List.filter_cons_of_neg (by simpa using c)]
        simp [e]; omega
      · rw [List.filter_cons_of_neg (by simp; omega), List.filter_cons_of_neg (by simpa using c)]
        simp [e]; omega
theorem sm_cn {n : Nat} {b : List Int} (h : Beg n b) : ∀ x : Nat, smS b x + cn b x = x
  | 0 => by
    have : smS b (0 : Nat) = 0 := by
      unfold smS
      rw [List.length_eq_zero_iff, List.filter_eq_nil_iff]
      intro y hy; have := h.lt y hy; simp; omega
    rw [this]; rfl
  | x + 1 => by
    have ih := sm_cn h x
    have h2 := sm_succ x b
    rw [h.nd.count] at h2
    rw [show ((x + 1 : Nat) : Int) = (x : Int) + 1 by omega, h2]
    simp only [cn]
    by_cases m : (x : Int) ∈ b
    · rw [if_pos m, if_pos m]; omega
    · rw [if_neg m, if_neg m]; omega
set_option maxRecDepth 100000 in
theorem following_ac (n : Nat) (v : AV) (b : List Int) (x : Nat) (H : AH) (Q : AV → AH → Prop) (h9 : n ≤ 9) (hb : Beg n b) (hl : b.length < n) (hx : x < n) (hv : Ls H v b) (h : Q (.int .i64 (folS n b x)) H) : AC Try.prog 85 [.int .i64 n, v, .int .i64 x] H Q := by
  refine AC.quiet (belB_int _ _ _ _) (fun Q h => ?_) Q h
  have hvl := ls_len hv
  refine L_body 42 Try.func85 rfl rfl ?_
  refine L_reg [0, 1, 2] (fun K hK => ?_)
  simp
  apply hK; clear hK K
  by_cases m : (x : Int) ∈ b
  · refine L_reg [0, 1, 2, 19] (fun K hK => ?_)
    simp [okFn_low]
    refine Contains_ac v b x _ _ (by omega) hv ?_
    simp [m, pickV]
    apply hK; clear hK K
    refine L_true rfl ?_
    refine L_reg [6] (fun K hK => ?_)
    simp
    apply hK; clear hK K
    have e : folS n b x = 0 := by unfold folS; rw [if_pos (.inl m)]
    rw [e] at h
    exact L_ret ⟨.inr rfl, _, rfl, h H (.refl _)⟩
  · refine L_reg [0, 1, 2, 19] (fun K hK => ?_)
    simp [okFn_low]
    refine Contains_ac v b x _ _ (by omega) hv ?_
    have hE1 : Ext H (H ++ [AObj.row [AV.int .i64 x] 0 1 false]) := .push _ _
    have hs : Ls (H ++ [AObj.row [AV.int .i64 x] 0 1 false]) (.slice (some H.length) 0 1 0 1 false) [(x : Int)] := Ls.row (ro := false) (l := [(x : Int)]) (s := 1) (by simp) false
    simp [okFn_low, m]
    refine joined_ac v _ b [(x : Int)] _ _ (by simp) (by simp; omega) (hv.ext hE1) hs (fun w H2 hO hE2 => ?_)
    have hE := hE1.trans hE2
    simp [okFn_low]
    refine turns_ac w (b ++ [(x : Int)]) _ _ (by simp; omega) hO.own.ls ?_
    simp [pickV]
    apply hK; clear hK K
    have hv2 := hv.ext hE
    have hvl2 := ls_len hv2
    cases ha : altB (b ++ [(x : Int)]) with
    | false =>
      refine L_true rfl ?_
      refine L_reg [6] (fun K hK => ?_)
      simp
      apply hK; clear hK K
      have e : folS n b x = 0 := by unfold folS; rw [if_pos (.inr ha)]
      rw [e] at h
      exact L_ret ⟨.inr rfl, _, rfl, h H2 hE⟩
    | true =>
      refine L_false rfl ?_
      have hsm := sm_cn hb x
      have hc := hb.cn
      have hmo := cn_mono b (j := x + 1) (k := n) (by omega)
      have h3 : cn b (x + 1) = cn b x + 1 := by simp [cn, m]
      have e0 : IntKind.i64.wrap ((n : Int) - b.length) = ((n - b.length : Nat) : Int) := by rw [wrap_i64 (by omega)]; omega
      have e1 : IntKind.i64.wrap ((x : Int) - (smS b x : Nat)) = ((cn b x : Nat) : Int) := by rw [wrap_i64 (by omega)]; omega
      have hf : folS n b x = eb (n - b.length) (rkS n b x) := by unfold folS; rw [if_neg (by simp [m, ha])]
      rw [hf] at h
      refine L_reg [1, 2, 7] (fun K hK => ?_)
      simp [hvl2, e0]
      apply hK; clear hK K
      refine L_reg [1, 7, 8] (fun K hK => ?_)
      simp [okFn_low]
      refine smaller7_ac v b x _ _ (by omega) hv2 ?_
      simp [e1]
      apply hK; clear hK K
      have hodd : ((b.length : Int).tmod 2 == 1) = decide (b.length % 2 = 1) := by
        rw [Int.tmod_eq_emod_of_nonneg (by omega)]
        by_cases c : b.length % 2 = 1
        · rw [show (b.length : Int) % 2 = 1 by omega]; simp [c]
        · rw [show (b.length : Int) % 2 = 0 by omega]; simp [c]
      refine L_reg [7, 8, 32] (fun K hK => ?_)
      simp [hvl2, hodd]
      apply hK; clear hK K
      have hrk : rkS n b x < n - b.length := by unfold rkS; split <;> omega
      refine L_dec (b.length % 2 = 1) rfl (fun c => ?_) (fun c => ?_)
      · have e2 : IntKind.i64.wrap (IntKind.i64.wrap (((n - b.length : Nat) : Int) - 1) - (cn b x : Nat)) = ((rkS n b x : Nat) : Int) := by
          rw [wrap_i64 (a := ((n - b.length : Nat) : Int) - 1) (by omega), wrap_i64 (by omega)]
          unfold rkS; rw [if_pos c]; omega
        refine L_reg [7, 8] (fun K hK => ?_)
        simp [e2]
        apply hK; clear hK K
        refine L_reg [6] (fun K hK => ?_)
        simp [okFn_low]
        refine begins_ac (n - b.length) (by omega) (by omega) _ _ (fun w2 H3 hO3 hE3 => ?_)
        obtain ⟨rz, pz, vz, hix, hld⟩ := ls_ix hO3.own.ls (i := rkS n b x) (by rw [ern_len]; omega)
        simp [hix, hld]
        apply hK; clear hK K
        exact L_ret ⟨.inr rfl, _, rfl, (by simpa [eb] using h H3 (hE.trans hE3))⟩
      · have e2 : cn b x = rkS n b x := by unfold rkS; rw [if_neg c]
        rw [e2]
        refine L_reg [6] (fun K hK => ?_)
        simp [okFn_low]
        refine begins_ac (n - b.length) (by omega) (by omega) _ _ (fun w2 H3 hO3 hE3 => ?_)
        obtain ⟨rz, pz, vz, hix, hld⟩ := ls_ix hO3.own.ls (i := rkS n b x) (by rw [ern_len]; omega)
        simp [hix, hld]
        apply hK; clear hK K
        exact L_ret ⟨.inr rfl, _, rfl, (by simpa [eb] using h H3 (hE.trans hE3))⟩
end Go.Proofs.Ytpfkioakjmpimaa

/- Each number of the triangle is the one beside it and one of the row before together. -/
namespace Go.Proofs.Ytpfkioakjmpimaa
open Go Go.Proofs.Ytpfkioakjmpimaa.AX
set_option linter.unusedVariables false
theorem tri_fact : ∀ n, 2 ≤ n → n ≤ 9 → ∀ k, k + 1 < n → eb n k = eb n (k + 1) + eb (n - 1) (n - 2 - k) := by
  have : ∀ n, n ≤ 9 → ∀ k, k ≤ 9 → 2 ≤ n → k + 1 < n → eb n k = eb n (k + 1) + eb (n - 1) (n - 2 - k) := by decide
  exact fun n h1 h2 k h3 => this n h2 k (by omega) h1 h3
theorem tri_last : ∀ n, 2 ≤ n → n ≤ 9 → eb n (n - 1) = 0 := by
  have : ∀ n, n ≤ 9 → 2 ≤ n → eb n (n - 1) = 0 := by decide
  exact fun n h1 h2 => this n h2 h1
theorem eb_bd : ∀ n, n ≤ 9 → ∀ k, k ≤ 9 → 0 ≤ eb n k ∧ eb n k ≤ 100000 := by decide
set_option maxRecDepth 100000 in
theorem shadeTriangle_ac (c f : Int) (hc : 0 ≤ c ∧ c < 256) (hf : 0 ≤ f ∧ f < 256) (H : AH) : AC Try.prog 11 [.int .u8 c, .int .u8 f] H fun u _ => u = .bool true := by
  refine L_body 71 Try.func11 rfl rfl ?_
  refine L_reg [0, 1] (fun K hK => ?_)
  simp
  apply hK; clear hK K
  obtain ⟨n, hn, hn2⟩ : ∃ n : Nat, 2 + c.tmod 8 = (n : Int) ∧ 2 ≤ n ∧ n ≤ 9 := ⟨2 + (c.toNat % 8), by
    rw [Int.tmod_eq_emod_of_nonneg hc.1]; omega, by omega, by omega⟩
  have e8 : IntKind.i64.wrap (c.tmod 8) = c.tmod 8 := wrap_i64 (by rw [Int.tmod_eq_emod_of_nonneg hc.1]; omega)
  refine L_reg [1, 5] (fun K hK => ?_)
  simp [wrap_i64 (a := c) (by omega), hn, wrap_i64 (a := (n : Int)) (by omega)]
  apply hK; clear hK K
  obtain ⟨k, hk, hk2⟩ : ∃ k : Nat, f.tmod (n : Int) = (k : Int) ∧ k < n := ⟨f.toNat % n, by
    rw [Int.tmod_eq_emod_of_nonneg hf.1]
    obtain ⟨m, rfl⟩ : ∃ m : Nat, f = m := ⟨f.toNat, by omega⟩
    simp, Nat.mod_lt _ (by omega)⟩
  have hn0 : (n : Int) ≠ 0 := by omega
  have hn0' : n ≠ 0 := by omega
  refine L_reg [5, 6] (fun K hK => ?_)
  simp [wrap_i64 (a := f) (by omega), hk, hn0']
  apply hK; clear hK K
  have g0 : bgE n k = 0 := by unfold bgE; rw [if_pos (by omega)]
  have v0 : bgV n k = eb n k := by unfold bgV; rw [if_pos (by omega)]; simp
  have b0 := eb_bd n (by omega) k (by omega)
  refine L_reg [5, 6, 7, 8] (fun K hK => ?_)
  simp [okFn_low]
  refine Begin_ac _ _ _ _ ?_
  simp [g0, v0]
  apply hK; clear hK K
  refine L_reg [5, 6, 7, 28] (fun K hK => ?_)
  simp
  apply hK; clear hK K
  refine L_false rfl ?_
  by_cases hl : k + 1 = n
  · refine L_reg [5, 6, 7, 32] (fun K hK => ?_)
    simp [wrap_i64 (a := (n : Int) - 1) (by omega)]
    apply hK; clear hK K
    refine L_true (by simp; omega) ?_
    have e0 := tri_last n (by omega) (by omega)
    obtain rfl : k = n - 1 := by omega
    refine L_reg [4] (fun K hK => ?_)
    simp [okFn_low, e0]
    refine works_ac _ _ ?_
    simp [pickV]
    apply hK; clear hK K
    exact L_ret ⟨.inr rfl, _, rfl, rfl⟩
  · refine L_reg [5, 6, 7, 32] (fun K hK => ?_)
    simp [wrap_i64 (a := (n : Int) - 1) (by omega)]
    apply hK; clear hK K
    refine L_false (by simp; omega) ?_
    have g1 : bgE n ((k : Int) + 1) = 0 := by unfold bgE; rw [if_pos (by omega)]
    have v1 : bgV n ((k : Int) + 1) = eb n (k + 1) := by
      unfold bgV; rw [if_pos (by omega)]
      rw [show ((k : Int) + 1).toNat = k + 1 by omega]; simp
    refine L_reg [5, 6, 7, 9, 10] (fun K hK => ?_)
    simp [okFn_low, wrap_i64 (a := (k : Int) + 1) (by omega)]
    refine Begin_ac _ _ _ _ ?_
    simp [g1, v1]
    apply hK; clear hK K
    have w2 : IntKind.i64.wrap (IntKind.i64.wrap ((n : Int) - 2) - (k : Int)) = ((n - 2 - k : Nat) : Int) := by rw [wrap_i64 (a := (n : Int) - 2) (by omega), wrap_i64 (by omega)]; omega
    have w1 : IntKind.i64.wrap ((n : Int) - 1) = ((n - 1 : Nat) : Int) := by rw [wrap_i64 (by omega)]; omega
    have g2 : bgE ((n - 1 : Nat) : Int) ((n - 2 - k : Nat) : Int) = 0 := by unfold bgE; rw [if_pos (by omega)]
    have v2 : bgV ((n - 1 : Nat) : Int) ((n - 2 - k : Nat) : Int) = eb (n - 1) (n - 2 - k) := by
      unfold bgV; rw [if_pos (by omega)]; simp
    refine L_reg [7, 9, 10, 11, 12] (fun K hK => ?_)
    simp [okFn_low, w1, w2]
    refine Begin_ac _ _ _ _ ?_
    simp [g2, v2]
    apply hK; clear hK K
    have e := tri_fact n (by omega) (by omega) k (by omega)
    have b1 := eb_bd n (by omega) (k + 1) (by omega)
    have b2 := eb_bd (n - 1) (by omega) (n - 2 - k) (by omega)
    refine L_reg [4] (fun K hK => ?_)
    simp [okFn_low, pickV, wrap_i64 (a := eb n (k + 1) + eb (n - 1) (n - 2 - k)) (by omega), e]
    refine works_ac _ _ ?_
    simp [pickV]
    apply hK; clear hK K
    exact L_ret ⟨.inr rfl, _, rfl, rfl⟩
end Go.Proofs.Ytpfkioakjmpimaa

/- Orders: as the reference tells and counts them. -/
namespace Go.Proofs.Ytpfkioakjmpimaa
open Go Go.Proofs.Ytpfkioakjmpimaa.AX
set_option linter.unusedVariables false
theorem altAt_ne {l : List Int} {i : Nat} (h : g l i ≠ g l (i + 1)) : (decide (g l i < g l (i + 1)) == decide (i % 2 = 0)) = altAt l i := by
  unfold altAt
  by_cases c : i % 2 = 0
  · rw [if_pos c]
    by_cases d : g l i < g l (i + 1) <;> simp [c, d]
  · rw [if_neg c]
    by_cases d : g l i < g l (i + 1)
    · have : ¬ g l (i + 1) < g l i := by omega
      simp [c, d, this]
    · have : g l (i + 1) < g l i := by omega
      simp [c, d, this]
set_option maxRecDepth 100000 in
theorem turningR_ac (v : AV) (l : List Int) (H : AH) (Q : AV → AH → Prop) (hlen : l.length ≤ 1000000) (hd : ∀ i, i + 1 < l.length → g l i ≠ g l (i + 1)) (hv : Ls H v l) (h : Q (.bool (altB l)) H) : AC Try.prog 78 [v] H Q := by
  have hl := ls_len hv
  refine L_body 25 Try.func78 rfl rfl ?_
  refine L_reg [0] (fun K hK => ?_)
  simp
  apply hK; clear hK K
  refine L_reg [0, 3] (fun K hK => ?_)
  simp
  apply hK; clear hK K
  refine L_block (L_loopV [3] (fun n vs H' => ∃ i : Nat, n = l.length - i ∧ i ≤ l.length ∧ (∀ j, j < i → altAt l j = true) ∧ vs = [.int .i64 i] ∧ H = H') _ [.int .i64 0] rfl ⟨0, rfl, by omega, fun j hj => by omega, rfl, rfl⟩ ?_)
  rintro _ _ _ ⟨i, rfl, hi, hall, rfl, rfl⟩
  refine L_reg [0, 3, 8] (fun K hK => ?_)
  simp [hl, wrap_i64 (a := (i : Int) + 1) (by omega)]
  apply hK; clear hK K
  refine L_dec ((i : Int) + 1 < l.length) (by simp) (fun hlt => ?_) (fun hge => L_exit ?_)
  · refine L_block ?_
    obtain ⟨rz, pz, vz, hix, hld⟩ := ls_ix hv (i := i) (by omega)
    obtain ⟨ry, py, vy, hiy, hldy⟩ := ls_ix hv (i := i + 1) (by omega)
    rw [show ((i + 1 : Nat) : Int) = (i : Int) + 1 by omega] at hiy
    have hodd : ((i : Int).tmod 2 == 0) = decide (i % 2 = 0) := by
      rw [Int.tmod_eq_emod_of_nonneg (by omega)]
      by_cases c : i % 2 = 0
      · rw [show (i : Int) % 2 = 0 by omega]; simp [c]
      · rw [show (i : Int) % 2 = 1 by omega]; simp [c]
    have ha := altAt_ne (hd i (by omega))
    refine L_regT mixed [0, 3, 24] (by kernel_rfl) (fun K hK => ?_)
    simp [hix, hld, wrap_i64 (a := (i : Int) + 1) (by omega), hiy, hldy, hodd]
    apply hK; clear hK K
    have hq : (g l i < g l (i + 1) ↔ i % 2 = 0) ↔ altAt l i = true := by rw [← ha]; simp
    cases hb : altAt l i with
    | true =>
      refine L_false (by simp; exact hq.2 hb) ?_
      refine L_reg [0, 3] (fun K hK => ?_)
      simp [wrap_i64 (a := (i : Int) + 1) (by omega)]
      apply hK; clear hK K
      exact ⟨l.length - (i + 1), [.int .i64 (i + 1 : Nat)], by omega, by simp, i + 1, rfl, by omega, fun j hj => by
        by_cases e : j = i
        · rw [e]; exact hb
        · exact hall j (by omega), rfl, rfl⟩
    | false =>
      refine L_true (by simp; intro e; rw [hq.1 e] at hb; cases hb) ?_
      refine L_reg [2] (fun K hK => ?_)
      simp
      apply hK; clear hK K
      rw [altB_no (by omega) hb] at h
      exact L_ret ⟨.inr rfl, _, rfl, h⟩
  · have e : altB l = true := altB_iff.2 fun j hj => hall j (by omega)
    rw [e] at h
    refine L_reg [2] (fun K hK => ?_)
    simp
    apply hK; clear hK K
    exact L_ret ⟨.inr rfl, _, rfl, h⟩
theorem nodup_ne {l : List Int} (h : l.Nodup) {i j : Nat} (hij : i < j) (hj : j < l.length) : g l i ≠ g l j := by
  rw [g_lt (by omega), g_lt hj]
  intro e
  have := (List.nodup_iff_pairwise_ne.1 h)
  exact List.pairwise_iff_getElem.1 this i j (by omega) hj hij e
theorem fol_bd {n : Nat} {b : List Int} {x : Nat} (h9 : n ≤ 9) (hb : Beg n b) (hl : b.length < n) (hx : x < n) : 0 ≤ folS n b x ∧ folS n b x ≤ 100000 := by
  unfold folS
  split
  · omega
  · have hc := hb.cn
    have := cn_mono b (j := x) (k := n) (by omega)
    exact eb_bd _ (by omega) _ (by unfold rkS; split <;> omega)
theorem sumN_bd {f : Nat → Int} : ∀ {n : Nat}, (∀ i, i < n → 0 ≤ f i ∧ f i ≤ 100000) → 0 ≤ sumN f n ∧ sumN f n ≤ 100000 * n
  | 0, _ => by simp [sumN]
  | n + 1, h => by
    have h1 := sumN_bd (f := f) (n := n) fun i hi => h i (by omega)
    have h2 := h n (by omega)
    simp only [sumN]; omega
set_option maxRecDepth 100000 in
theorem countR_ac (n : Nat) (h9 : n ≤ 9) : ∀ (d : Nat) (b : List Int) (v : AV) (H : AH) (Q : AV → AH → Prop), Beg n b → b.length + d = n → Ls H v b → Q (.int .i64 (cntS n d b)) H → AC Try.prog 81 [.int .i64 n, v] H Q := by
  intro d
  induction d with
  | zero =>
    intro b v H Q hB hd hv h
    have hvl := ls_len hv
    refine L_body 34 Try.func81 rfl rfl ?_
    refine L_reg [0, 1] (fun K hK => ?_)
    simp
    apply hK; clear hK K
    refine L_reg [0, 1, 9] (fun K hK => ?_)
    simp [okFn_low]
    refine turningR_ac v b _ _ (by omega) (fun i hi => nodup_ne hB.nd (by omega) hi) hv ?_
    simp
    apply hK; clear hK K
    unfold cntS at h
    cases ha : altB b with
    | false =>
      rw [ha, if_pos rfl] at h
      refine L_true rfl ?_
      refine L_reg [4] (fun K hK => ?_)
      simp
      apply hK; clear hK K
      exact L_ret ⟨.inr rfl, _, rfl, h⟩
    | true =>
      rw [ha, if_neg (by simp)] at h
      refine L_false rfl ?_
      refine L_reg [0, 1, 13] (fun K hK => ?_)
      simp [hvl]
      apply hK; clear hK K
      refine L_true (by simp; omega) ?_
      refine L_reg [4] (fun K hK => ?_)
      simp
      apply hK; clear hK K
      exact L_ret ⟨.inr rfl, _, rfl, h⟩
  | succ d ih =>
    intro b v H Q hB hd hv h
    refine AC.quiet (belB_int _ _ _ _) (fun Q h => ?_) Q h
    have hvl := ls_len hv
    refine L_body 34 Try.func81 rfl rfl ?_
    refine L_reg [0, 1] (fun K hK => ?_)
    simp
    apply hK; clear hK K
    refine L_reg [0, 1, 9] (fun K hK => ?_)
    simp [okFn_low]
    refine turningR_ac v b _ _ (by omega) (fun i hi => nodup_ne hB.nd (by omega) hi) hv ?_
    simp
    apply hK; clear hK K
    unfold cntS at h
    cases ha : altB b with
    | false =>
      rw [ha, if_pos rfl] at h
      refine L_true rfl ?_
      refine L_reg [4] (fun K hK => ?_)
      simp
      apply hK; clear hK K
      exact L_ret ⟨.inr rfl, _, rfl, h _ (.refl _)⟩
    | true =>
      rw [ha, if_neg (by simp)] at h
      refine L_false rfl ?_
      refine L_reg [0, 1, 13] (fun K hK => ?_)
      simp [hvl]
      apply hK; clear hK K
      refine L_false (by simp; omega) ?_
      refine L_reg [0, 1, 5] (fun K hK => ?_)
      simp
      apply hK; clear hK K
      refine L_reg [0, 1, 5, 6] (fun K hK => ?_)
      simp
      apply hK; clear hK K
      have hF : ∀ x, x < n → 0 ≤ (if (x : Int) ∈ b then 0 else cntS n d (b ++ [(x : Int)])) ∧ (if (x : Int) ∈ b then 0 else cntS n d (b ++ [(x : Int)])) ≤ 100000 := fun x hx => by
        split
        · omega
        · rename_i m
          rw [cnt_fol n d b x hB (by omega) hx m]
          exact fol_bd h9 hB (by omega) hx
      generalize hFF : (fun x : Nat => if (x : Int) ∈ b then 0 else cntS n d (b ++ [(x : Int)])) = F at *
      have hFx : ∀ x : Nat, (if (x : Int) ∈ b then 0 else cntS n d (b ++ [(x : Int)])) = F x := fun x => by rw [← hFF]
      simp only [hFx] at hF
      refine L_block (L_loopV [5, 6] (fun k vs H' => ∃ x : Nat, k = n - x ∧ x ≤ n ∧ vs = [.int .i64 (sumN F x), .int .i64 x] ∧ Ext H H') _ [.int .i64 0, .int .i64 0] rfl ⟨0, rfl, by omega, rfl, .refl _⟩ ?_)
      rintro _ _ H1 ⟨x, rfl, hx, rfl, hE⟩
      have hv1 := hv.ext hE
      refine L_reg [0, 1, 5, 6, 16] (fun K hK => ?_)
      simp
      apply hK; clear hK K
      refine L_dec (x < n) (by simp) (fun hlt => ?_) (fun hge => L_exit ?_)
      · refine L_block ?_
        have hs := sumN_bd (f := F) (n := x) fun i hi => hF i (by omega)
        have hf := hF x hlt
        have hFx := hFx x
        refine L_reg [0, 1, 5, 6, 22] (fun K hK => ?_)
        simp [okFn_low]
        refine has_ac v b x _ _ (by omega) hv1 ?_
        simp
        apply hK; clear hK K
        by_cases m : (x : Int) ∈ b
        · rw [if_pos m] at hFx
          refine L_false (by simp [m]) ?_
          refine L_reg [0, 1, 5, 6] (fun K hK => ?_)
          simp [wrap_i64 (a := (x : Int) + 1) (by omega)]
          apply hK; clear hK K
          exact ⟨n - (x + 1), [.int .i64 (sumN F (x + 1)), .int .i64 (x + 1 : Nat)], by omega, by simp [sumN, ← hFx], x + 1, rfl, by omega, rfl, hE⟩
        · rw [if_neg m] at hFx
          refine L_true (by simp [m]) ?_
          have hB0 : Ext H1 (H1 ++ [AObj.row [] 0 0 false]) := .push _ _
          obtain ⟨u1, H2, p1, p2, p3⟩ := ownF_appendL (P := Try.prog) hB0 el22 el22 (ownF_new H1) (hv1.ext hB0) (by simp; omega)
          have hB2 : Ext H2 (H2 ++ [AObj.row [AV.int .i64 x] 0 1 false]) := .push _ _
          have hsx : Ls (H2 ++ [AObj.row [AV.int .i64 x] 0 1 false]) (.slice (some H2.length) 0 1 0 1 false) [(x : Int)] := Ls.row (ro := false) (l := [(x : Int)]) (s := 1) (by simp) false
          obtain ⟨u2, H3, q1, q2, q3⟩ := ownF_appendL (P := Try.prog) (p3.trans hB2) el22 el22 (ownF_ext p2 hB2) hsx (by simp; omega)
          refine L_reg [0, 1, 5, 6] (fun K hK => ?_)
          simp [okFn_low, p1, q1]
          refine ih (b ++ [(x : Int)]) u2 H3 _ (hB.snoc hlt m) (by simp; omega) (by have := q2.own.ls; simpa using this) ?_
          simp [hFx, wrap_i64 (a := sumN F x + F x) (by omega)]
          apply hK; clear hK K
          refine L_reg [0, 1, 5, 6] (fun K hK => ?_)
          simp [wrap_i64 (a := (x : Int) + 1) (by omega)]
          apply hK; clear hK K
          exact ⟨n - (x + 1), [.int .i64 (sumN F (x + 1)), .int .i64 (x + 1 : Nat)], by omega, by simp [sumN], x + 1, rfl, by omega, rfl, hE.trans q3⟩
      · obtain rfl : x = n := by omega
        refine L_reg [4] (fun K hK => ?_)
        simp
        apply hK; clear hK K
        exact L_ret ⟨.inr rfl, _, rfl, h H1 hE⟩
theorem fol_nil (n : Nat) {x : Nat} : folS n [] x = eb n x := by
  unfold folS rkS
  rw [if_neg (by simp [altB])]
  simp [cn_nil]
theorem cnt_all {n : Nat} (h1 : 1 ≤ n) : cntS n n [] = ec n := by
  obtain ⟨m, rfl⟩ : ∃ m, n = m + 1 := ⟨n - 1, by omega⟩
  unfold cntS ec
  rw [if_neg (by simp [altB]), sum_N, ern_len, Nat.add_sub_cancel]
  refine sumN_eq fun x hx => ?_
  rw [if_neg (by simp), cnt_fol (m + 1) m [] x (.nil _) (by simp; omega) hx (by simp), fol_nil]
  unfold eb; rw [Nat.add_sub_cancel]
theorem CountR_ac (n : Int) (H : AH) (Q : AV → AH → Prop) (h : Q (.tuple [.int .i64 (cnV n), .int .i64 (cnE n)]) H) : AC Try.prog 38 [.int .i64 n] H Q := by
  refine L_body 9 Try.func38 rfl rfl ?_
  refine L_reg [0] (fun K hK => ?_)
  simp
  apply hK; clear hK K
  unfold cnV cnE at h
  by_cases a : 1 ≤ n ∧ n ≤ 9
  · rw [if_pos a, if_pos a] at h
    refine L_reg [0, 6] (fun K hK => ?_)
    simp [okFn_low]
    refine in_ac _ _ _ _ _ ?_
    simp
    apply hK; clear hK K
    refine L_false (by simp [a]) ?_
    obtain ⟨m, rfl⟩ : ∃ m : Nat, n = m := ⟨n.toNat, by omega⟩
    refine L_reg [2, 3] (fun K hK => ?_)
    simp [okFn_low]
    refine countR_ac m (by omega) m [] _ _ _ (.nil _) (by simp) (.nil _) ?_
    simp [cnt_all (show 1 ≤ m by omega)]
    apply hK; clear hK K
    exact L_ret ⟨.inr rfl, _, rfl, (by simpa using h)⟩
  · rw [if_neg a, if_neg a] at h
    refine L_reg [0, 6] (fun K hK => ?_)
    simp [okFn_low]
    refine in_ac _ _ _ _ _ ?_
    simp
    apply hK; clear hK K
    refine L_true (by simp; omega) ?_
    refine L_reg [2, 3] (fun K hK => ?_)
    simp
    apply hK; clear hK K
    exact L_ret ⟨.inr rfl, _, rfl, h⟩
theorem BeginR_ac (n k : Int) (hn : -100000000000 ≤ n ∨ True) (H : AH) (Q : AV → AH → Prop) (h : Q (.tuple [.int .i64 (bgV n k), .int .i64 (bgE n k)]) H) : AC Try.prog 40 [.int .i64 n, .int .i64 k] H Q := by
  refine AC.quiet (by simp [belB]) (fun Q h => ?_) Q h
  refine L_body 20 Try.func40 rfl rfl ?_
  refine L_reg [0, 1] (fun K hK => ?_)
  simp
  apply hK; clear hK K
  unfold bgV bgE at h
  by_cases a : 1 ≤ n ∧ n ≤ 9
  · by_cases a4 : 0 ≤ k ∧ k < n
    · rw [if_pos ⟨a, a4⟩, if_pos ⟨a, a4⟩] at h
      refine L_reg [0, 1, 15] (fun K hK => ?_)
      simp [okFn_low]
      refine in_ac _ _ _ _ _ ?_
      simp [okFn_low, a, wrap_i64 (a := n - 1) (by omega)]
      refine in_ac _ _ _ _ _ ?_
      simp [pickV]
      apply hK; clear hK K
      refine L_false (by simp; omega) ?_
      obtain ⟨m, rfl⟩ : ∃ m : Nat, n = m := ⟨n.toNat, by omega⟩
      obtain ⟨f, rfl⟩ : ∃ f : Nat, k = f := ⟨k.toNat, by omega⟩
      have hE1 : Ext H (H ++ [AObj.row [AV.int .i64 f] 0 1 false]) := .push _ _
      have hs : Ls (H ++ [AObj.row [AV.int .i64 f] 0 1 false]) (.slice (some H.length) 0 1 0 1 false) [(f : Int)] := Ls.row (ro := false) (l := [(f : Int)]) (s := 1) (by simp) false
      have hc := cnt_fol m (m - 1) [] f (.nil _) (by simp; omega) (by omega) (by simp)
      rw [fol_nil, List.nil_append] at hc
      refine L_reg [4, 5] (fun K hK => ?_)
      simp [okFn_low]
      refine countR_ac m (by omega) (m - 1) [(f : Int)] _ _ _ (by have := (Beg.nil m).snoc (x := f) (by omega) (by simp); simpa using this) (by simp; omega) hs ?_
      simp [hc]
      apply hK; clear hK K
      exact L_ret ⟨.inr rfl, _, rfl, (by simpa using h _ hE1)⟩
    · rw [if_neg (fun h => a4 h.2), if_neg (fun h => a4 h.2)] at h
      refine L_reg [0, 1, 15] (fun K hK => ?_)
      simp [okFn_low]
      refine in_ac _ _ _ _ _ ?_
      simp [okFn_low, a, wrap_i64 (a := n - 1) (by omega)]
      refine in_ac _ _ _ _ _ ?_
      simp [pickV]
      apply hK; clear hK K
      refine L_true (by simp; omega) ?_
      refine L_reg [4, 5] (fun K hK => ?_)
      simp
      apply hK; clear hK K
      exact L_ret ⟨.inr rfl, _, rfl, h _ (.refl _)⟩
  · rw [if_neg (fun h => a h.1), if_neg (fun h => a h.1)] at h
    have a' : ¬ (1 ≤ n ∧ n ≤ 9) := a
    refine L_reg [0, 1, 15] (fun K hK => ?_)
    simp [okFn_low]
    refine in_ac _ _ _ _ _ ?_
    have e : decide (1 ≤ n ∧ n ≤ 9) = false := by simp [a']
    rw [e]
    simp [pickV]
    apply hK; clear hK K
    refine L_true rfl ?_
    refine L_reg [4, 5] (fun K hK => ?_)
    simp
    apply hK; clear hK K
    exact L_ret ⟨.inr rfl, _, rfl, h _ (.refl _)⟩
end Go.Proofs.Ytpfkioakjmpimaa

/- Orders: Turning and Number, of the program and of the reference. -/
namespace Go.Proofs.Ytpfkioakjmpimaa
open Go Go.Proofs.Ytpfkioakjmpimaa.AX
set_option linter.unusedVariables false
def fstNZ : List Int → Int
  | [] => 0
  | a :: l => if a = 0 then fstNZ l else a
theorem fst_zero : ∀ {l : List Int}, (∀ x ∈ l, x = 0) → fstNZ l = 0
  | [], _ => rfl
  | a :: l, h => by unfold fstNZ; rw [if_pos (h a (by simp)), fst_zero fun x hx => h x (by simp [hx])]
theorem fst_app : ∀ {a b : List Int}, (∀ x ∈ a, x = 0) → fstNZ (a ++ b) = fstNZ b
  | [], _, _ => rfl
  | x :: a, b, h => by
    show (if x = 0 then fstNZ (a ++ b) else x) = _
    rw [if_pos (h x (by simp)), fst_app fun y hy => h y (by simp [hy])]
theorem fst_at {f : Nat → Int} {n i : Nat} (hi : i < n) (h : ∀ j, j < i → f j = 0) (hf : f i ≠ 0) : fstNZ ((List.range n).map f) = f i := by
  have e : List.range n = List.range i ++ (i :: (List.range (n - i - 1)).map (i + 1 + ·)) := by
    conv => lhs; rw [show n = i + (1 + (n - i - 1)) by omega]
    rw [List.range_add, List.range_add]
    simp [Function.comp_def, Nat.add_assoc]
  rw [e, List.map_append, fst_app (fun x hx => by obtain ⟨j, hj, rfl⟩ := List.mem_map.1 hx; exact h j (List.mem_range.1 hj))]
  rw [List.map_cons]
  unfold fstNZ; rw [if_neg hf]
/-- What is wrong with a place of an order. -/
def orAt (l : List Int) (i : Nat) : Int := if 0 ≤ g l i ∧ g l i < l.length then (if g l i ∈ l.take i then 6 else 0) else 2
def orE (l : List Int) : Int := if lenE l.length 9 = 0 then fstNZ ((List.range l.length).map (orAt l)) else lenE l.length 9
theorem orE_ok {l : List Int} (h0 : lenE l.length 9 = 0) (h : ∀ i, i < l.length → orAt l i = 0) : orE l = 0 := by
  unfold orE; rw [if_pos h0]
  exact fst_zero fun x hx => by obtain ⟨j, hj, rfl⟩ := List.mem_map.1 hx; exact h j (List.mem_range.1 hj)
theorem orE_bad {l : List Int} (h0 : lenE l.length 9 = 0) {i : Nat} (hi : i < l.length) (h : ∀ j, j < i → orAt l j = 0) (hf : orAt l i ≠ 0) : orE l = orAt l i := by
  unfold orE; rw [if_pos h0]; exact fst_at hi h hf
theorem orE_all {l : List Int} (h : orE l = 0) : 1 ≤ l.length ∧ l.length ≤ 9 ∧ ∀ i, i < l.length → orAt l i = 0 := by
  unfold orE at h
  by_cases h0 : lenE l.length 9 = 0
  · rw [if_pos h0] at h
    refine ⟨by unfold lenE at h0; split at h0 <;> omega, by unfold lenE at h0; split at h0; omega; split at h0 <;> omega, fun i => ?_⟩
    induction i using Nat.strongRecOn with
    | ind i ih =>
      intro hi
      by_cases e : orAt l i = 0
      · exact e
      · have := fst_at (f := orAt l) hi (fun j hj => ih j hj (by omega)) e
        rw [h] at this; exact this.symm
  · rw [if_neg h0] at h; exact absurd h h0
theorem take_snoc {l : List Int} {i : Nat} (h : i < l.length) : l.take (i + 1) = l.take i ++ [g l i] := by
  rw [List.take_add_one, List.getElem?_eq_getElem h, ← g_lt h]; rfl
theorem or_beg {l : List Int} : ∀ {i : Nat}, i ≤ l.length → (∀ j, j < i → orAt l j = 0) → Beg l.length (l.take i)
  | 0, _, _ => by simpa using Beg.nil l.length
  | i + 1, hi, h => by
    have hB := or_beg (i := i) (by omega) fun j hj => h j (by omega)
    have ha := h i (by omega)
    unfold orAt at ha
    split at ha
    · rename_i c
      split at ha
      · cases ha
      · rename_i m
        rw [take_snoc (by omega)]
        obtain ⟨x, hx⟩ : ∃ x : Nat, g l i = x := ⟨(g l i).toNat, by omega⟩
        rw [hx] at m c ⊢
        exact hB.snoc (by omega) m
    · cases ha
def turB (l : List Int) : Bool := if orE l = 0 then altB l else false
set_option maxRecDepth 100000 in
theorem Turning_ac (v : AV) (l : List Int) (H : AH) (Q : AV → AH → Prop) (hlen : l.length ≤ 1000000) (hv : Ls H v l) (h : Q (.tuple [.bool (turB l), .int .i64 (orE l)]) H) : AC Try.prog 35 [v] H Q := by
  have hl := ls_len hv
  refine L_body 35 Try.func35 rfl rfl ?_
  refine L_reg [0] (fun K hK => ?_)
  simp
  apply hK; clear hK K
  refine L_reg [0, 4] (fun K hK => ?_)
  simp [okFn_low]
  refine checkLength_ac v l 9 _ _ hv ?_
  simp
  apply hK; clear hK K
  refine L_reg [0, 4, 10] (fun K hK => ?_)
  simp
  apply hK; clear hK K
  by_cases h0 : lenE l.length 9 = 0
  · refine L_false (by simp [h0]) ?_
    refine L_reg [0, 12, 13, 14] (fun K hK => ?_)
    simp [hl]
    apply hK; clear hK K
    refine L_block (L_loopV [14] (fun n vs H' => ∃ i : Nat, n = l.length - i ∧ i ≤ l.length ∧ (∀ j, j < i → orAt l j = 0) ∧ vs = [.int .i64 i] ∧ H = H') _ [.int .i64 0] rfl ⟨0, rfl, by omega, fun j hj => by omega, rfl, rfl⟩ ?_)
    rintro _ _ _ ⟨i, rfl, hi, hall, rfl, rfl⟩
    refine L_reg [0, 12, 13, 14, 15] (fun K hK => ?_)
    simp
    apply hK; clear hK K
    refine L_dec (i < l.length) (by simp) (fun hlt => ?_) (fun hge => L_exit ?_)
    · refine L_block ?_
      obtain ⟨rz, pz, vz, hix, hld⟩ := ls_ix hv hlt
      refine L_reg [0, 5, 6, 12, 13, 14] (fun K hK => ?_)
      simp [hix, hld]
      apply hK; clear hK K
      have hbad := fun hf => orE_bad h0 hlt hall hf
      by_cases c : 0 ≤ g l i ∧ g l i < l.length
      · have c1 : ¬ g l i < 0 := by omega
        have c2 : ¬ (l.length : Int) ≤ g l i := by omega
        refine L_reg [0, 5, 6, 12, 13, 14, 26] (fun K hK => ?_)
        simp [c1, c2, hl, pickV]
        apply hK; clear hK K
        refine L_false rfl ?_
        obtain ⟨u, hu1, hu2⟩ := ls_hi hv (by omega) (m := i) (by omega)
        refine L_reg [0, 12, 13, 14, 31] (fun K hK => ?_)
        simp [okFn_low, hu1]
        refine Contains_ac u (l.take i) (g l i) _ _ (by simp; omega) hu2 ?_
        simp
        apply hK; clear hK K
        by_cases m : g l i ∈ l.take i
        · have e : orAt l i = 6 := by unfold orAt; rw [if_pos c, if_pos m]
          rw [e] at hbad
          have he := hbad (by decide)
          unfold turB at h
          rw [he, if_neg (by decide)] at h
          refine L_true (by simp [m]) ?_
          refine L_reg [2, 3] (fun K hK => ?_)
          simp
          apply hK; clear hK K
          exact L_ret ⟨.inr rfl, _, rfl, h⟩
        · have e : orAt l i = 0 := by unfold orAt; rw [if_pos c, if_neg m]
          refine L_false (by simp [m]) ?_
          refine L_reg [0, 12, 13, 14] (fun K hK => ?_)
          simp [wrap_i64 (a := (i : Int) + 1) (by omega)]
          apply hK; clear hK K
          exact ⟨l.length - (i + 1), [.int .i64 (i + 1 : Nat)], by omega, by simp, i + 1, rfl, by omega, fun j hj => by
            by_cases e' : j = i
            · rw [e']; exact e
            · exact hall j (by omega), rfl, rfl⟩
      · have e : orAt l i = 2 := by unfold orAt; rw [if_neg c]
        rw [e] at hbad
        have he := hbad (by decide)
        unfold turB at h
        rw [he, if_neg (by decide)] at h
        by_cases c1 : g l i < 0
        · refine L_reg [0, 5, 6, 12, 13, 14, 26] (fun K hK => ?_)
          simp [c1, pickV]
          apply hK; clear hK K
          refine L_true rfl ?_
          refine L_reg [2, 3] (fun K hK => ?_)
          simp
          apply hK; clear hK K
          exact L_ret ⟨.inr rfl, _, rfl, h⟩
        · have c2 : (l.length : Int) ≤ g l i := by omega
          refine L_reg [0, 5, 6, 12, 13, 14, 26] (fun K hK => ?_)
          simp [c1, c2, hl, pickV]
          apply hK; clear hK K
          refine L_true rfl ?_
          refine L_reg [2, 3] (fun K hK => ?_)
          simp
          apply hK; clear hK K
          exact L_ret ⟨.inr rfl, _, rfl, h⟩
    · have he := orE_ok h0 fun j hj => hall j (by omega)
      unfold turB at h
      rw [he, if_pos rfl] at h
      refine L_reg [2, 3] (fun K hK => ?_)
      simp [okFn_low]
      refine turns_ac v l _ _ hlen hv ?_
      simp
      apply hK; clear hK K
      exact L_ret ⟨.inr rfl, _, rfl, h⟩
  · have he : orE l = lenE l.length 9 := by unfold orE; rw [if_neg h0]
    unfold turB at h
    rw [he, if_neg h0] at h
    refine L_true (by simp [h0]) ?_
    refine L_reg [2, 3] (fun K hK => ?_)
    simp
    apply hK; clear hK K
    exact L_ret ⟨.inr rfl, _, rfl, h⟩
set_option maxRecDepth 100000 in
theorem TurningR_ac (v : AV) (l : List Int) (H : AH) (Q : AV → AH → Prop) (hlen : l.length ≤ 1000000) (hv : Ls H v l) (h : Q (.tuple [.bool (turB l), .int .i64 (orE l)]) H) : AC Try.prog 36 [v] H Q := by
  have hl := ls_len hv
  refine L_body 36 Try.func36 rfl rfl ?_
  refine L_reg [0] (fun K hK => ?_)
  simp
  apply hK; clear hK K
  refine L_reg [0, 7] (fun K hK => ?_)
  simp [hl]
  apply hK; clear hK K
  by_cases z0 : l.length = 0
  · have he : orE l = 4 := by unfold orE lenE; simp [z0]
    unfold turB at h
    rw [he, if_neg (by decide)] at h
    have z1 : l = [] := List.eq_nil_of_length_eq_zero z0
    refine L_true (by simp [z1]) ?_
    refine L_reg [2, 3] (fun K hK => ?_)
    simp
    apply hK; clear hK K
    exact L_ret ⟨.inr rfl, _, rfl, h⟩
  · have z1 : l ≠ [] := fun e => z0 (by rw [e]; rfl)
    refine L_false (by simp [z1]) ?_
    refine L_reg [0, 10] (fun K hK => ?_)
    simp [hl]
    apply hK; clear hK K
    by_cases z9 : 9 < l.length
    · have he : orE l = 3 := by
        have : lenE l.length 9 = 3 := by unfold lenE; rw [if_neg z0, if_pos (by omega)]
        unfold orE; rw [this]; rfl
      unfold turB at h
      rw [he, if_neg (by decide)] at h
      refine L_true (by simp; omega) ?_
      refine L_reg [2, 3] (fun K hK => ?_)
      simp
      apply hK; clear hK K
      exact L_ret ⟨.inr rfl, _, rfl, h⟩
    · have h0 : lenE l.length 9 = 0 := by unfold lenE; rw [if_neg z0, if_neg (by omega)]
      refine L_false (by simp; omega) ?_
      refine L_reg [0, 4] (fun K hK => ?_)
      simp
      apply hK; clear hK K
      refine L_block (L_loopV [4] (fun n vs H' => ∃ i : Nat, n = l.length - i ∧ i ≤ l.length ∧ (∀ j, j < i → orAt l j = 0) ∧ vs = [.int .i64 i] ∧ H = H') _ [.int .i64 0] rfl ⟨0, rfl, by omega, fun j hj => by omega, rfl, rfl⟩ ?_)
      rintro _ _ _ ⟨i, rfl, hi, hall, rfl, rfl⟩
      refine L_reg [0, 4, 14] (fun K hK => ?_)
      simp [hl]
      apply hK; clear hK K
      refine L_dec (i < l.length) (by simp) (fun hlt => ?_) (fun hge => L_exit ?_)
      · refine L_block ?_
        obtain ⟨rz, pz, vz, hix, hld⟩ := ls_ix hv hlt
        have hbad := fun hf => orE_bad h0 hlt hall hf
        refine L_reg [0, 4, 25] (fun K hK => ?_)
        simp [okFn_low, hix, hld, hl, wrap_i64 (a := (l.length : Int) - 1) (by omega)]
        refine in_ac _ _ _ _ _ ?_
        simp
        apply hK; clear hK K
        by_cases c : 0 ≤ g l i ∧ g l i < l.length
        · refine L_false (by simp; omega) ?_
          obtain ⟨u, hu1, hu2⟩ := ls_hi hv (by omega) (m := i) (by omega)
          refine L_regT mixed [0, 4, 33] (by kernel_rfl) (fun K hK => ?_)
          simp [hu1, hix, hld, okFn_low]
          refine exC_mk (fun Q hQ => has_ac u (l.take i) (g l i) H Q (by simp; omega) hu2 hQ) ?_
          simp
          apply hK; clear hK K
          by_cases m : g l i ∈ l.take i
          · have e : orAt l i = 6 := by unfold orAt; rw [if_pos c, if_pos m]
            rw [e] at hbad
            have he := hbad (by decide)
            unfold turB at h
            rw [he, if_neg (by decide)] at h
            refine L_true (by simp [m]) ?_
            refine L_reg [2, 3] (fun K hK => ?_)
            simp
            apply hK; clear hK K
            exact L_ret ⟨.inr rfl, _, rfl, h⟩
          · have e : orAt l i = 0 := by unfold orAt; rw [if_pos c, if_neg m]
            refine L_false (by simp [m]) ?_
            refine L_reg [0, 4] (fun K hK => ?_)
            simp [wrap_i64 (a := (i : Int) + 1) (by omega)]
            apply hK; clear hK K
            exact ⟨l.length - (i + 1), [.int .i64 (i + 1 : Nat)], by omega, by simp, i + 1, rfl, by omega, fun j hj => by
              by_cases e' : j = i
              · rw [e']; exact e
              · exact hall j (by omega), rfl, rfl⟩
        · have e : orAt l i = 2 := by unfold orAt; rw [if_neg c]
          rw [e] at hbad
          have he := hbad (by decide)
          unfold turB at h
          rw [he, if_neg (by decide)] at h
          refine L_true (by simp; omega) ?_
          refine L_reg [2, 3] (fun K hK => ?_)
          simp
          apply hK; clear hK K
          exact L_ret ⟨.inr rfl, _, rfl, h⟩
      · obtain rfl : i = l.length := by omega
        have he := orE_ok h0 hall
        unfold turB at h
        rw [he, if_pos rfl] at h
        have hB := or_beg (Nat.le_refl _) hall
        rw [List.take_length] at hB
        refine L_reg [2, 3] (fun K hK => ?_)
        simp [okFn_low]
        refine turningR_ac v l _ _ hlen (fun i hi => nodup_ne hB.nd (by omega) hi) hv ?_
        simp
        apply hK; clear hK K
        exact L_ret ⟨.inr rfl, _, rfl, h⟩
end Go.Proofs.Ytpfkioakjmpimaa
