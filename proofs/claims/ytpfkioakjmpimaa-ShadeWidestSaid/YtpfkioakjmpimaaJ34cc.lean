/- Joined texts: PubR2, Turn, Works0, Works, WBoxes, Tray, WProved, TurnM, MoreM, EnM, AllL, VisL, LeastM, WidM, WTurned, WWid, Bytes. -/
import Derived.Test.YtpfkioakjmpimaaJ34cb
/- Greatest sums, as the reference finds them; what it tells of boxes. -/
namespace Go.Proofs.Ytpfkioakjmpimaa
open Go Go.Proofs.Ytpfkioakjmpimaa.AX

set_option maxRecDepth 100000 in
theorem wideR_ac (v : AV) (l : List Int) (r : Bool) (H : AH) (Q : AV → AH → Prop) (h1 : 1 ≤ l.length) (hlen : l.length ≤ 7) (hb : Bd 1000 l) (hv : Ls H v l)
    (h : ∀ w H', Ls H' w (wideS r l) → Ext H H' → Q w H') : AC Try.prog 74 [v, .bool r] H Q := by
  refine L_body 51 Try.func74 rfl rfl ?_
  refine L_reg [0, 1] (fun K hK => ?_)
  simp
  apply hK; clear hK K
  refine L_reg [1, 5] (fun K hK => ?_)
  simp [okFn_low]
  refine allR_ac l.length [] l 0 (.slice none 0 0 0 1 false) v _ _ rfl (by simpa using hlen) ⟨none, 0, 0, 1, false, rfl, fun i h => by simp at h⟩ hv (Nat.zero_le _) (fun w H1 hO hE => ?_)
  simp
  apply hK; clear hK K
  have hL := fun p => mem_allS l.length [] l p rfl
  have hall : ∀ b, BestOf (fun p => -sumC r p) (allS l.length [] l) b → b = wideS r l := fun b hb => hb.all
  have hmem : l ∈ allS l.length [] l := (hL l).2 ⟨l, .refl _, rfl⟩
  have hLn : (allS l.length [] l).length ≤ 5040 := by
    have hh : ∀ k, k ≤ 7 → fac k ≤ 5040 := by decide
    exact Nat.le_trans (allS_len l.length [] l rfl) (hh _ hlen)
  have hperm : ∀ p ∈ allS l.length [] l, p.length = l.length ∧ Bd 1000 p := fun p hp => by
    obtain ⟨q, hq, rfl⟩ := (hL p).1 hp
    exact ⟨by simpa using hq.length_eq, by simpa using hb.perm hq⟩
  generalize allS l.length [] l = L at *
  have hwl := lssB_len hO
  have hL0 : 0 < L.length := List.length_pos_of_mem hmem
  obtain ⟨r0, p0, ver0, b0, hix0, hld0, hb0⟩ := lssB_ix hO hL0
  have hix0' : ∀ k, aIndexAddr Try.prog 62 w (.int k 0) = some (.ptr r0 p0 ver0) := hix0
  refine L_reg [1, 5, 6] (fun K hK => ?_)
  simp [hix0', hld0]
  apply hK; clear hK K
  refine L_reg [1, 5, 6, 7] (fun K hK => ?_)
  simp
  apply hK; clear hK K
  refine L_block (L_loopK [1, 5, 6, 7] [6, 7] (fun n vs H' => ∃ (i : Nat) (u : AV) (b : List Int), n = L.length - i ∧ 1 ≤ i ∧ i ≤ L.length ∧ BestOf (fun p => -sumC r p) (L.take i) b ∧ Ls H1 u b ∧ vs = [u, .int .i64 i] ∧ H1 = H') _ [b0, .int .i64 1] rfl rfl ⟨1, b0, L[0], rfl, by omega, by omega, ?_, hb0, rfl, rfl⟩ ?_)
  · have e : L.take 1 = [L[0]] := by rw [List.take_add_one, List.getElem?_eq_getElem hL0]; rfl
    rw [e]
    exact ⟨by simp, fun p hp => by rw [List.mem_singleton.1 hp]; exact .refl _ _⟩
  rintro n _ _ ⟨i, u, b, rfl, hi1, hi, hB, hu, rfl, rfl⟩
  have hbm : b ∈ L := List.mem_of_mem_take hB.1
  have hbp := hperm b hbm
  refine L_reg [1, 5, 6, 7, 18] (fun K hK => ?_)
  simp [hwl]
  apply hK; clear hK K
  refine L_dec (i < L.length) rfl (fun hlt => ?_) (fun hge => L_exit ?_)
  · refine L_block ?_
    have hlt' : i < L.length := by omega
    obtain ⟨rz, pz, vz, x, hix, hld, hx⟩ := lssB_ix hO hlt'
    have hxp := hperm L[i] (List.getElem_mem hlt')
    have hS := hB.step (x := L[i]) (by rw [hxp.1, hbp.1])
    have htk : L.take (i + 1) = L.take i ++ [L[i]] := by rw [List.take_add_one, List.getElem?_eq_getElem hlt']; rfl
    rw [← htk] at hS
    have hnext : i + 1 ≤ L.length := hlt'
    generalize L[i] = y at *
    refine L_reg [1, 5, 6, 7, 8, 9] (fun K hK => ?_)
    simp [okFn_low, hix, hld]
    refine sumR_ac x y r _ _ (by omega) hxp.2 hx ?_
    simp [okFn_low]
    refine sumR_ac u b r _ _ (by omega) hbp.2 hu ?_
    simp
    apply hK; clear hK K
    rcases Int.lt_trichotomy (sumC r b) (sumC r y) with e | e | e
    · rw [if_pos (.inl (by omega))] at hS
      refine L_reg [1, 5, 6, 7, 45] (fun K hK => ?_)
      simp [e, pickV]
      apply hK; clear hK K
      refine L_true rfl ?_
      refine L_reg [1, 5, 6, 7] (fun K hK => ?_)
      simp [hix, hld]
      apply hK; clear hK K
      refine L_reg [1, 5, 6, 7] (fun K hK => ?_)
      simp [wrap_i64 (a := (i : Int) + 1) (by omega)]
      apply hK; clear hK K
      exact ⟨L.length - (i + 1), [x, .int .i64 (i + 1 : Nat)], by omega, by simp, i + 1, x, y, rfl, by omega, hnext, hS, hx, rfl, rfl⟩
    · have e2 : ¬ sumC r b < sumC r y := by omega
      refine L_reg [1, 5, 6, 7, 45] (fun K hK => ?_)
      simp [okFn_low, e.symm, hix, hld]
      refine smaller_ac x u y b _ _ (by rw [hxp.1, hbp.1]) (by omega) hx hu ?_
      simp [pickV]
      apply hK; clear hK K
      refine L_split rfl (fun ht => ?_) (fun hf => ?_)
      · rw [if_pos (.inr ⟨by omega, by simpa using ht⟩)] at hS
        refine L_reg [1, 5, 6, 7] (fun K hK => ?_)
        simp [hix, hld]
        apply hK; clear hK K
        refine L_reg [1, 5, 6, 7] (fun K hK => ?_)
        simp [wrap_i64 (a := (i : Int) + 1) (by omega)]
        apply hK; clear hK K
        exact ⟨L.length - (i + 1), [x, .int .i64 (i + 1 : Nat)], by omega, by simp, i + 1, x, y, rfl, by omega, hnext, hS, hx, rfl, rfl⟩
      · rw [if_neg (fun h => by
          rcases h with h | ⟨-, h⟩
          · omega
          · simp at hf; exact hf h)] at hS
        refine L_reg [1, 5, 6, 7] (fun K hK => ?_)
        simp [wrap_i64 (a := (i : Int) + 1) (by omega)]
        apply hK; clear hK K
        exact ⟨L.length - (i + 1), [u, .int .i64 (i + 1 : Nat)], by omega, by simp, i + 1, u, b, rfl, by omega, hnext, hS, hu, rfl, rfl⟩
    · have e2 : ¬ sumC r b < sumC r y := by omega
      have e3 : ¬ sumC r y = sumC r b := by omega
      have e3b : (sumC r y == sumC r b) = false := by simpa using e3
      rw [if_neg (fun h => by rcases h with h | ⟨h, -⟩ <;> omega)] at hS
      refine L_reg [1, 5, 6, 7, 45] (fun K hK => ?_)
      simp [e2, e3b, pickV]
      apply hK; clear hK K
      refine L_false rfl ?_
      refine L_reg [1, 5, 6, 7] (fun K hK => ?_)
      simp [wrap_i64 (a := (i : Int) + 1) (by omega)]
      apply hK; clear hK K
      exact ⟨L.length - (i + 1), [u, .int .i64 (i + 1 : Nat)], by omega, by simp, i + 1, u, b, rfl, by omega, hnext, hS, hu, rfl, rfl⟩
  · rw [List.take_of_length_le (by omega)] at hB
    have := hall b hB
    subst this
    refine L_reg [4] (fun K hK => ?_)
    simp
    apply hK; clear hK K
    exact L_ret ⟨.inr rfl, _, rfl, h u H1 hu hE⟩
theorem StepR_ac (v : AV) (l : List Int) (r : Bool) (H : AH) (Q : AV → AH → Prop) (hlen : l.length ≤ 1000000) (hv : Ls H v l) (h : Q (.tuple [.int .i64 (if shE l = 0 then stepC r l else 0), .int .i64 (shE l)]) H) : AC Try.prog 17 [v, .bool r] H Q := by
  refine L_body 15 Try.func17 rfl rfl ?_
  refine L_reg [0, 1] (fun K hK => ?_)
  simp
  apply hK; clear hK K
  refine L_reg [0, 1, 6] (fun K hK => ?_)
  simp [okFn_low]
  refine CheckR_ac v l _ _ hlen hv ?_
  simp
  apply hK; clear hK K
  refine L_reg [0, 1, 6, 10] (fun K hK => ?_)
  simp
  apply hK; clear hK K
  by_cases h0 : shE l = 0
  · obtain ⟨b1, b2, b3⟩ := Bd.ok h0
    rw [if_pos h0] at h
    refine L_false (by simp [h0]) ?_
    refine L_reg [4, 5] (fun K hK => ?_)
    simp [okFn_low]
    refine greatestR_ac v l r _ _ hlen b3 hv ?_
    simp
    apply hK; clear hK K
    rw [h0] at h
    exact L_ret ⟨.inr rfl, _, rfl, h⟩
  · rw [if_neg h0] at h
    refine L_true (by simp [h0]) ?_
    refine L_reg [4, 5] (fun K hK => ?_)
    simp
    apply hK; clear hK K
    exact L_ret ⟨.inr rfl, _, rfl, h⟩
theorem SumR_ac (v : AV) (l : List Int) (r : Bool) (H : AH) (Q : AV → AH → Prop) (hlen : l.length ≤ 1000000) (hv : Ls H v l) (h : Q (.tuple [.int .i64 (if shE l = 0 then sumC r l else 0), .int .i64 (shE l)]) H) : AC Try.prog 19 [v, .bool r] H Q := by
  refine L_body 15 Try.func19 rfl rfl ?_
  refine L_reg [0, 1] (fun K hK => ?_)
  simp
  apply hK; clear hK K
  refine L_reg [0, 1, 6] (fun K hK => ?_)
  simp [okFn_low]
  refine CheckR_ac v l _ _ hlen hv ?_
  simp
  apply hK; clear hK K
  refine L_reg [0, 1, 6, 10] (fun K hK => ?_)
  simp
  apply hK; clear hK K
  by_cases h0 : shE l = 0
  · obtain ⟨b1, b2, b3⟩ := Bd.ok h0
    rw [if_pos h0] at h
    refine L_false (by simp [h0]) ?_
    refine L_reg [4, 5] (fun K hK => ?_)
    simp [okFn_low]
    refine sumR_ac v l r _ _ hlen b3 hv ?_
    simp
    apply hK; clear hK K
    rw [h0] at h
    exact L_ret ⟨.inr rfl, _, rfl, h⟩
  · rw [if_neg h0] at h
    refine L_true (by simp [h0]) ?_
    refine L_reg [4, 5] (fun K hK => ?_)
    simp
    apply hK; clear hK K
    exact L_ret ⟨.inr rfl, _, rfl, h⟩
theorem LeastR_ac (v : AV) (l : List Int) (r : Bool) (H : AH) (Q : AV → AH → Prop) (hlen : l.length ≤ 1000000) (hv : Ls H v l) (h : Q (.tuple [.int .i64 (if shE l = 0 then gr (rsS r l) else 0), .int .i64 (shE l)]) H) : AC Try.prog 25 [v, .bool r] H Q := by
  refine AC.quiet (by simp [belB]) (fun Q h => ?_) Q h
  refine L_body 17 Try.func25 rfl rfl ?_
  refine L_reg [0, 1] (fun K hK => ?_)
  simp
  apply hK; clear hK K
  refine L_reg [0, 1, 6] (fun K hK => ?_)
  simp [okFn_low]
  refine CheckR_ac v l _ _ hlen hv ?_
  simp
  apply hK; clear hK K
  refine L_reg [0, 1, 6, 10] (fun K hK => ?_)
  simp
  apply hK; clear hK K
  by_cases h0 : shE l = 0
  · obtain ⟨b1, b2, b3⟩ := Bd.ok h0
    rw [if_pos h0] at h
    refine L_false (by simp [h0]) ?_
    have hpl := (boxS_perm r l).length_eq
    refine L_reg [4, 5] (fun K hK => ?_)
    simp [okFn_low]
    refine boxR_ac v l r _ _ b1 b2 b3 hv (fun w H2 hw hE2 => ?_)
    simp [okFn_low]
    refine greatestR_ac w _ r _ _ (by omega) (b3.perm (boxS_perm r l)) hw ?_
    simp
    apply hK; clear hK K
    have e := least_is r l
    unfold boxS
    rw [e]
    rw [h0] at h
    exact L_ret ⟨.inr rfl, _, rfl, h H2 hE2⟩
  · rw [if_neg h0] at h
    refine L_true (by simp [h0]) ?_
    refine L_reg [4, 5] (fun K hK => ?_)
    simp
    apply hK; clear hK K
    exact L_ret ⟨.inr rfl, _, rfl, h _ (.refl _)⟩
theorem BoxR_ac (v : AV) (l : List Int) (r : Bool) (H : AH) (Q : AV → AH → Prop) (hlen : l.length ≤ 1000000) (hv : Ls H v l) (h : ∀ w H', Ls H' w (orNil (shE l) (boxS r l)) → Ext H H' → Q (.tuple [w, .int .i64 (shE l)]) H') : AC Try.prog 27 [v, .bool r] H Q := by
  refine L_body 15 Try.func27 rfl rfl ?_
  refine L_reg [0, 1] (fun K hK => ?_)
  simp
  apply hK; clear hK K
  refine L_reg [0, 1, 6] (fun K hK => ?_)
  simp [okFn_low]
  refine CheckR_ac v l _ _ hlen hv ?_
  simp
  apply hK; clear hK K
  refine L_reg [0, 1, 6, 10] (fun K hK => ?_)
  simp
  apply hK; clear hK K
  unfold orNil at h
  by_cases h0 : shE l = 0
  · obtain ⟨b1, b2, b3⟩ := Bd.ok h0
    rw [if_pos h0] at h
    refine L_false (by simp [h0]) ?_
    refine L_reg [4, 5] (fun K hK => ?_)
    simp [okFn_low]
    refine boxR_ac v l r _ _ b1 b2 b3 hv (fun w H2 hw hE2 => ?_)
    simp
    apply hK; clear hK K
    rw [h0] at h
    exact L_ret ⟨.inr rfl, _, rfl, h w H2 hw hE2⟩
  · rw [if_neg h0] at h
    refine L_true (by simp [h0]) ?_
    refine L_reg [4, 5] (fun K hK => ?_)
    simp
    apply hK; clear hK K
    exact L_ret ⟨.inr rfl, _, rfl, h _ _ ⟨none, 0, 0, 1, false, rfl, fun i h => by simp at h⟩ (.refl _)⟩
theorem WideR_ac (v : AV) (l : List Int) (r : Bool) (H : AH) (Q : AV → AH → Prop) (hlen : l.length ≤ 1000000) (hv : Ls H v l) (h : ∀ w H', Ls H' w (orNil (shE l) (wideS r l)) → Ext H H' → Q (.tuple [w, .int .i64 (shE l)]) H') : AC Try.prog 34 [v, .bool r] H Q := by
  refine L_body 15 Try.func34 rfl rfl ?_
  refine L_reg [0, 1] (fun K hK => ?_)
  simp
  apply hK; clear hK K
  refine L_reg [0, 1, 6] (fun K hK => ?_)
  simp [okFn_low]
  refine CheckR_ac v l _ _ hlen hv ?_
  simp
  apply hK; clear hK K
  refine L_reg [0, 1, 6, 10] (fun K hK => ?_)
  simp
  apply hK; clear hK K
  unfold orNil at h
  by_cases h0 : shE l = 0
  · obtain ⟨b1, b2, b3⟩ := Bd.ok h0
    rw [if_pos h0] at h
    refine L_false (by simp [h0]) ?_
    refine L_reg [4, 5] (fun K hK => ?_)
    simp [okFn_low]
    refine wideR_ac v l r _ _ b1 b2 b3 hv (fun w H2 hw hE2 => ?_)
    simp
    apply hK; clear hK K
    rw [h0] at h
    exact L_ret ⟨.inr rfl, _, rfl, h w H2 hw hE2⟩
  · rw [if_neg h0] at h
    refine L_true (by simp [h0]) ?_
    refine L_reg [4, 5] (fun K hK => ?_)
    simp
    apply hK; clear hK K
    exact L_ret ⟨.inr rfl, _, rfl, h _ _ ⟨none, 0, 0, 1, false, rfl, fun i h => by simp at h⟩ (.refl _)⟩
theorem MostR_ac (v : AV) (l : List Int) (r : Bool) (H : AH) (Q : AV → AH → Prop) (hlen : l.length ≤ 1000000) (hv : Ls H v l) (h : Q (.tuple [.int .i64 (if shE l = 0 then sumC r (wideS r l) else 0), .int .i64 (shE l)]) H) : AC Try.prog 32 [v, .bool r] H Q := by
  refine AC.quiet (by simp [belB]) (fun Q h => ?_) Q h
  refine L_body 17 Try.func32 rfl rfl ?_
  refine L_reg [0, 1] (fun K hK => ?_)
  simp
  apply hK; clear hK K
  refine L_reg [0, 1, 6] (fun K hK => ?_)
  simp [okFn_low]
  refine CheckR_ac v l _ _ hlen hv ?_
  simp
  apply hK; clear hK K
  refine L_reg [0, 1, 6, 10] (fun K hK => ?_)
  simp
  apply hK; clear hK K
  by_cases h0 : shE l = 0
  · obtain ⟨b1, b2, b3⟩ := Bd.ok h0
    rw [if_pos h0] at h
    refine L_false (by simp [h0]) ?_
    have hp := wideS_perm r l
    have hpl := hp.length_eq
    refine L_reg [4, 5] (fun K hK => ?_)
    simp [okFn_low]
    refine wideR_ac v l r _ _ b1 b2 b3 hv (fun w H2 hw hE2 => ?_)
    simp [okFn_low]
    refine sumR_ac w _ r _ _ (by omega) (b3.perm hp) hw ?_
    simp
    apply hK; clear hK K
    rw [h0] at h
    exact L_ret ⟨.inr rfl, _, rfl, h H2 hE2⟩
  · rw [if_neg h0] at h
    refine L_true (by simp [h0]) ?_
    refine L_reg [4, 5] (fun K hK => ?_)
    simp
    apply hK; clear hK K
    exact L_ret ⟨.inr rfl, _, rfl, h _ (.refl _)⟩
theorem rs_nn (r : Bool) (l : List Int) (_h1 : 1 ≤ l.length) : ∀ x ∈ rsS r l, 0 ≤ x := by
  intro x hx
  obtain ⟨i, hi, rfl⟩ := memg hx
  rw [rsS_len] at hi
  rw [g_rs hi]
  have hA := asc_of (srt_sorted l)
  have := hA i (i + reachS l.length r) (by omega) (by rw [srt_len]; omega)
  omega
theorem idx_mem {x : Int} : ∀ {l : List Int}, x ∈ l → 0 ≤ idx x l
  | y :: l, h => by
    simp only [idx]
    split
    · omega
    · rename_i hne
      have : x ∈ l := by
        rcases List.mem_cons.1 h with e | e
        · exact absurd e hne
        · exact e
      have := idx_mem this
      split <;> omega
theorem idx_get {x : Int} : ∀ {l : List Int} {p : Nat}, idx x l = p → p < l.length ∧ g l p = x
  | [], p, h => by simp only [idx] at h; omega
  | y :: l, p, h => by
    simp only [idx] at h
    split at h
    · rename_i e
      have : p = 0 := by omega
      subst this
      exact ⟨by simp, by simp [g, e]⟩
    · split at h
      · omega
      · have h0 := idx_ge x l
        obtain ⟨q, hq⟩ : ∃ q : Nat, idx x l = q := ⟨(idx x l).toNat, by omega⟩
        obtain ⟨h1, h2⟩ := idx_get hq
        have : p = q + 1 := by omega
        subst this
        exact ⟨by simp; omega, by simpa [g] using h2⟩
theorem idx_nilI (x : Int) : idx x [] = -1 := rfl
set_option maxRecDepth 100000 in
theorem WhyR_ac (v : AV) (l : List Int) (r : Bool) (H : AH) (Q : AV → AH → Prop) (hlen : l.length ≤ 1000) (hv : Ls H v l) (h : Q (.tuple [.int .i64 (whyS r l), .int .i64 (whyE l)]) H) : AC Try.prog 29 [v, .bool r] H Q := by
  refine AC.quiet (by simp [belB]) (fun Q h => ?_) Q h
  have hl := ls_len hv
  refine L_body 46 Try.func29 rfl rfl ?_
  refine L_reg [0, 1] (fun K hK => ?_)
  simp
  apply hK; clear hK K
  refine L_reg [0, 1, 6, 7] (fun K hK => ?_)
  simp [okFn_low]
  refine LeastR_ac v l r _ _ (by omega) hv ?_
  simp
  apply hK; clear hK K
  unfold whyS at h
  unfold whyE at h
  by_cases h0 : shE l = 0
  · obtain ⟨b1, b2, b3⟩ := Bd.ok h0
    rw [if_pos h0] at h
    by_cases h2 : l.length = 1
    · refine L_reg [0, 1, 6, 7, 22] (fun K hK => ?_)
      simp [h0, hl, h2, pickV]
      apply hK; clear hK K
      refine L_true rfl ?_
      refine L_reg [0, 1, 6, 7] (fun K hK => ?_)
      simp
      apply hK; clear hK K
      refine L_reg [0, 1, 6, 7, 24] (fun K hK => ?_)
      simp
      apply hK; clear hK K
      refine L_true rfl ?_
      refine L_reg [4, 5] (fun K hK => ?_)
      simp
      apply hK; clear hK K
      exact L_ret ⟨.inr rfl, _, rfl, by simpa [h2] using h _ (.refl _)⟩
    · have h2b : ((l.length : Int) == 1) = false := by simp; omega
      refine L_reg [0, 1, 6, 7, 22] (fun K hK => ?_)
      simp [h0, hl, h2b, pickV]
      apply hK; clear hK K
      refine L_false rfl ?_
      refine L_reg [0, 1, 6, 7, 24] (fun K hK => ?_)
      simp
      apply hK; clear hK K
      refine L_false rfl ?_
      rw [if_neg h2, if_pos rfl] at h
      have hsh := (shE_ok h0).2.2
      refine L_reg [0, 1, 6, 8] (fun K hK => ?_)
      simp [okFn_low]
      refine sortedR_ac v l _ _ hlen hv (fun w H1 hO hE => ?_)
      simp
      apply hK; clear hK K
      rw [srtR_eq hsh] at hO
      have hw := hO.own.ls
      have hv1 := hv.ext hE
      have hbs := b3.perm (srt_perm l)
      have hsl := srt_len l
      obtain ⟨hr1, hr2⟩ := reach_le b1 r
      have hrl := rsS_len r l
      have hlt : reachS l.length r < l.length := by unfold reachS; split <;> omega
      have hg : ∀ i, i < l.length - reachS l.length r → g (rsS r l) i = g (srt l) (i + reachS l.length r) - g (srt l) i := fun i hi => g_rs hi
      have hmx : gr (rsS r l) ∈ rsS r l := gr_mem (rs_nn r l b1) (by intro e; rw [e] at hrl; simp at hrl; omega)
      have hle : ∀ i, i < (rsS r l).length → g (rsS r l) i ≤ gr (rsS r l) := fun i hi => le_gr (gmem hi)
      generalize gr (rsS r l) = m at *
      generalize rsS r l = R at *
      have hix0 : 0 ≤ idx m R := idx_mem hmx
      refine L_reg [0, 1, 6, 8, 9] (fun K hK => ?_)
      simp
      apply hK; clear hK K
      refine L_block (L_loopV [9] (fun n vs H' => ∃ i : Nat, n = R.length - i ∧ i < R.length ∧ off i (idx m (R.drop i)) = idx m R ∧ vs = [.int .i64 i] ∧ H1 = H') _ [.int .i64 0] rfl ⟨0, rfl, by omega, by unfold off; rw [List.drop_zero]; split <;> omega, rfl, rfl⟩ ?_)
      rintro n _ _ ⟨i, rfl, hi, hno, rfl, rfl⟩
      have hgi := hg i (by omega)
      obtain ⟨rz, pz, vz, hix, hld⟩ := ls_ix hw (i := i) (by omega)
      obtain ⟨ry, py, vy, hiy, hldy⟩ := ls_ix hw (i := i + reachS l.length r) (by omega)
      have c1 := sh_g hbs (i := i) (by omega)
      have c2 := sh_g hbs (i := i + reachS l.length r) (by omega)
      generalize hf : reachS l.length r = f at *
      rw [show ((i + f : Nat) : Int) = (i : Int) + f by omega] at hiy
      refine L_regQ mixed [0, 1, 6, 8, 9, 42] (by kernel_rfl) (fun K hK => ?_)
      simp [okFn_low]
      refine exQ_mk (fun Q hQ => reachR_ac v l r H1 Q hv1 (by rw [hf]; exact hQ)) ?_
      simp [hix, hld, hiy, hldy, wrap_i64 (a := (i : Int) + f) (by omega), ← hgi, wrap_i64 (a := g R i) (by omega)]
      apply hK; clear hK K
      refine L_dec (g R i < m) rfl (fun hlt => ?_) (fun hge => L_exit ?_)
      · refine L_block ?_
        refine L_reg [0, 1, 6, 8, 9] (fun K hK => ?_)
        simp [wrap_i64 (a := (i : Int) + 1) (by omega)]
        apply hK; clear hK K
        have hne : g R i ≠ m := by omega
        rw [off_step hi hne] at hno
        refine ⟨R.length - (i + 1), [.int .i64 (i + 1 : Nat)], by omega, by simp, i + 1, rfl, ?_, hno, rfl, rfl⟩
        apply Classical.byContradiction
        intro hh
        rw [List.drop_eq_nil_of_le (by omega), idx_nilI] at hno
        unfold off at hno
        simp at hno
        omega
      · have he : g R i = m := by have := hle i hi; omega
        rw [idx_here hi he] at hno
        have e3 : off i 0 = i := by unfold off; rw [if_neg (by omega)]; omega
        rw [e3] at hno
        rw [← hno] at h
        refine L_reg [4, 5] (fun K hK => ?_)
        simp
        apply hK; clear hK K
        exact L_ret ⟨.inr rfl, _, rfl, h _ hE⟩
  · rw [if_neg h0, if_neg h0] at h
    have h0b : (shE l == 0) = false := by simpa using h0
    refine L_reg [0, 1, 6, 7, 22] (fun K hK => ?_)
    simp [h0b, pickV]
    apply hK; clear hK K
    refine L_false rfl ?_
    refine L_reg [0, 1, 6, 7, 24] (fun K hK => ?_)
    simp
    apply hK; clear hK K
    refine L_true (by simp [h0]) ?_
    refine L_reg [4, 5] (fun K hK => ?_)
    simp
    apply hK; clear hK K
    exact L_ret ⟨.inr rfl, _, rfl, h _ (.refl _)⟩
set_option maxRecDepth 100000 in
theorem ProvesR_ac (v : AV) (l : List Int) (r : Bool) (i s : Int) (H : AH) (Q : AV → AH → Prop) (hlen : l.length ≤ 1000) (hv : Ls H v l) (h : Q (.int .i64 (provE l r i s)) H) : AC Try.prog 23 [v, .bool r, .int .i64 i, .int .i64 s] H Q := by
  refine AC.quiet (belB_int _ _ _ _) (fun Q h => ?_) Q h
  have hl := ls_len hv
  refine L_body 43 Try.func23 rfl rfl ?_
  refine L_reg [0, 1, 2, 3] (fun K hK => ?_)
  simp
  apply hK; clear hK K
  refine L_reg [0, 1, 2, 3, 9] (fun K hK => ?_)
  simp [okFn_low]
  refine CheckR_ac v l _ _ (by omega) hv ?_
  simp
  apply hK; clear hK K
  refine L_reg [0, 1, 2, 3, 9, 15] (fun K hK => ?_)
  simp
  apply hK; clear hK K
  unfold provE at h
  by_cases h0 : shE l = 0
  · obtain ⟨b1, b2, b3⟩ := Bd.ok h0
    rw [if_pos h0] at h
    refine L_false (by simp [h0]) ?_
    obtain ⟨hr1, hr2⟩ := reach_le b1 r
    refine L_reg [0, 2, 3, 10] (fun K hK => ?_)
    simp [okFn_low]
    refine reachR_ac v l r _ _ hv ?_
    simp
    apply hK; clear hK K
    have hsh := (shE_ok h0).2.2
    have hbs := b3.perm (srt_perm l)
    have hsl := srt_len l
    have hrl := rsS_len r l
    have hg : ∀ i, i < l.length - reachS l.length r → g (rsS r l) i = g (srt l) (i + reachS l.length r) - g (srt l) i := fun i hi => g_rs hi
    generalize hf : reachS l.length r = f at *
    generalize rsS r l = R at *
    refine L_reg [0, 2, 3, 10, 27] (fun K hK => ?_)
    simp [okFn_low, hl, wrap_i64 (a := (l.length : Int) - 1) (by omega), wrap_i64 (a := (l.length : Int) - 1 - f) (by omega)]
    refine in_ac _ _ _ _ _ ?_
    simp
    apply hK; clear hK K
    by_cases c1 : 0 ≤ i ∧ i < R.length
    · rw [if_pos c1] at h
      refine L_false (by simp; omega) ?_
      obtain ⟨k, rfl⟩ : ∃ k : Nat, i = k := ⟨i.toNat, by omega⟩
      simp only [Int.toNat_natCast] at h
      refine L_reg [2, 3, 10, 11] (fun K hK => ?_)
      simp [okFn_low]
      refine sortedR_ac v l _ _ hlen hv (fun w H1 hO hE => ?_)
      simp
      apply hK; clear hK K
      rw [srtR_eq hsh] at hO
      have hw := hO.own.ls
      have hgi := hg k (by omega)
      obtain ⟨rz, pz, vz, hix, hld⟩ := ls_ix hw (i := k) (by omega)
      obtain ⟨ry, py, vy, hiy, hldy⟩ := ls_ix hw (i := k + f) (by omega)
      have d1 := sh_g hbs (i := k) (by omega)
      have d2 := sh_g hbs (i := k + f) (by omega)
      rw [show ((k + f : Nat) : Int) = (k : Int) + f by omega] at hiy
      refine L_regT mixed [42] (by kernel_rfl) (fun K hK => ?_)
      simp [hix, hld, hiy, hldy, wrap_i64 (a := (k : Int) + f) (by omega), ← hgi, wrap_i64 (a := g R k) (by omega)]
      apply hK; clear hK K
      refine L_dec (g R k < s) rfl (fun c3 => ?_) (fun c3 => ?_)
      · rw [if_pos c3] at h
        refine L_reg [8] (fun K hK => ?_)
        simp
        apply hK; clear hK K
        exact L_ret ⟨.inr rfl, _, rfl, h H1 hE⟩
      · rw [if_neg c3] at h
        refine L_reg [8] (fun K hK => ?_)
        simp
        apply hK; clear hK K
        exact L_ret ⟨.inr rfl, _, rfl, h H1 hE⟩
    · rw [if_neg c1] at h
      refine L_true (by simp; omega) ?_
      refine L_reg [8] (fun K hK => ?_)
      simp
      apply hK; clear hK K
      exact L_ret ⟨.inr rfl, _, rfl, h _ (.refl _)⟩
  · rw [if_neg h0] at h
    refine L_true (by simp [h0]) ?_
    refine L_reg [8] (fun K hK => ?_)
    simp
    apply hK; clear hK K
    exact L_ret ⟨.inr rfl, _, rfl, h _ (.refl _)⟩
end Go.Proofs.Ytpfkioakjmpimaa

/- Whether an order turns, as the program and as the reference tell. -/
namespace Go.Proofs.Ytpfkioakjmpimaa
open Go Go.Proofs.Ytpfkioakjmpimaa.AX

def altAt (l : List Int) (i : Nat) : Bool := if i % 2 = 0 then decide (g l i < g l (i + 1)) else decide (g l (i + 1) < g l i)
/-- Greater and smaller by turns. -/
def altB (l : List Int) : Bool := (List.range (l.length - 1)).all (altAt l)
theorem altB_iff {l : List Int} : altB l = true ↔ ∀ i, i + 1 < l.length → altAt l i = true := by
  unfold altB
  rw [List.all_eq_true]
  exact ⟨fun h i hi => h i (List.mem_range.2 (by omega)), fun h i hi => h i (by rw [List.mem_range] at hi; omega)⟩
theorem altB_no {l : List Int} {i : Nat} (hi : i + 1 < l.length) (h : altAt l i = false) : altB l = false := by
  cases hb : altB l with
  | false => rfl
  | true => rw [altB_iff.1 hb i hi] at h; cases h
def cmpI (a b : Int) : Int := if a < b then -1 else if b < a then 1 else 0
theorem Compare_ac (a b : Int) (H : AH) (Q : AV → AH → Prop) (h : Q (.int .i64 (cmpI a b)) H) : AC Try.prog 102 [.int .i64 a, .int .i64 b] H Q := by
  refine L_body 20 Try.func102 rfl rfl ?_
  unfold cmpI at h
  refine L_reg [0, 1] (fun K hK => ?_)
  simp
  apply hK; clear hK K
  refine L_reg [0, 1, 5] (fun K hK => ?_)
  simp [okFn_low]
  refine isNaN_ac a _ _ ?_
  simp
  apply hK; clear hK K
  refine L_reg [0, 1, 5, 6] (fun K hK => ?_)
  simp [okFn_low]
  refine isNaN_ac b _ _ ?_
  simp
  apply hK; clear hK K
  refine L_reg [0, 1, 6, 11] (fun K hK => ?_)
  simp
  apply hK; clear hK K
  refine L_false rfl ?_
  refine L_reg [0, 1, 13] (fun K hK => ?_)
  simp
  apply hK; clear hK K
  refine L_false rfl ?_
  refine L_reg [0, 1, 16] (fun K hK => ?_)
  simp
  apply hK; clear hK K
  refine L_dec (a < b) rfl (fun h1 => ?_) (fun h1 => ?_)
  · rw [if_pos h1] at h
    refine L_reg [4] (fun K hK => ?_)
    simp
    apply hK; clear hK K
    exact L_ret ⟨.inr rfl, _, rfl, h⟩
  · rw [if_neg h1] at h
    refine L_reg [19] (fun K hK => ?_)
    simp
    apply hK; clear hK K
    refine L_dec (b < a) rfl (fun h2 => ?_) (fun h2 => ?_)
    · rw [if_pos h2] at h
      refine L_reg [4] (fun K hK => ?_)
      simp
      apply hK; clear hK K
      exact L_ret ⟨.inr rfl, _, rfl, h⟩
    · rw [if_neg h2] at h
      refine L_reg [4] (fun K hK => ?_)
      simp
      apply hK; clear hK K
      exact L_ret ⟨.inr rfl, _, rfl, h⟩
def wantI (k : Nat) : Int := if k % 2 = 0 then -1 else 1
theorem want_next (k : Nat) : -wantI k = wantI (k + 1) := by
  unfold wantI
  by_cases h : k % 2 = 0
  · rw [if_pos h, if_neg (by omega)]; rfl
  · rw [if_neg h, if_pos (by omega)]
theorem want_alt {l : List Int} {k : Nat} : altAt l k = decide (cmpI (g l k) (g l (k + 1)) = wantI k) := by
  unfold altAt cmpI wantI
  by_cases h : k % 2 = 0
  · rw [if_pos h, if_pos h]
    apply decide_eq_decide.2
    split <;> (try split) <;> omega
  · rw [if_neg h, if_neg h]
    apply decide_eq_decide.2
    split <;> (try split) <;> omega
theorem cmpI_small (a b : Int) : -1 ≤ cmpI a b ∧ cmpI a b ≤ 1 := by unfold cmpI; split <;> (try split) <;> omega
theorem wantI_small (k : Nat) : -1 ≤ wantI k ∧ wantI k ≤ 1 := by unfold wantI; split <;> omega
set_option maxRecDepth 100000 in
theorem turns_ac (v : AV) (l : List Int) (H : AH) (Q : AV → AH → Prop) (hlen : l.length ≤ 1000000) (hv : Ls H v l) (h : Q (.bool (altB l)) H) : AC Try.prog 76 [v] H Q := by
  refine AC.quiet (by simp [belB]) (fun Q h => ?_) Q h
  obtain ⟨r0, off0, ver0, sz0, full0, hv0, -⟩ := id hv
  refine L_body 17 Try.func76 rfl rfl ?_
  refine L_reg [0, 2, 4, 5] (fun K hK => ?_)
  simp [alloc_z zt4]
  apply hK; clear hK K
  obtain ⟨I, hI, hz⟩ := zeroT_some zt3
  have hst := store_last (P := Try.prog) (H := H ++ [AObj.row [.bool false] 0 0 false]) (u := 3) (c := [.int .i64 0]) (p := 0) (v := 0) (s := 0) sc3 (x := .int .i64 (-1)) (y := .int .i64 0) rfl rfl
  simp at hst
  refine L_reg [0, 2, 3, 4, 5] (fun K hK => ?_)
  simp [hI, hz, hst]
  apply hK; clear hK K
  have z0 : (H ++ [AObj.row [.bool false] 0 0 false, AObj.row [.int .i64 (-1)] 0 0 false]).length = H.length + 2 := by simp
  have z1 : (H ++ [AObj.row [.bool false] 0 0 false, AObj.row [.int .i64 (-1)] 0 0 false])[H.length]? = some (.row [.bool false] 0 0 false) := by simp
  have z2 : (H ++ [AObj.row [.bool false] 0 0 false, AObj.row [.int .i64 (-1)] 0 0 false])[H.length + 1]? = some (.row [.int .i64 (-1)] 0 0 false) := by simp
  have zE : Ext H (H ++ [AObj.row [.bool false] 0 0 false, AObj.row [.int .i64 (-1)] 0 0 false]) := .push _ _
  generalize H ++ [AObj.row [.bool false] 0 0 false, AObj.row [.int .i64 (-1)] 0 0 false] = Ha at z0 z1 z2 zE ⊢
  rw [hv0]
  refine L_reg [2, 3, 4, 5, 7] (fun K hK => ?_)
  simp [okFn_low]
  refine nbs_ac r0 off0 l.length ver0 sz0 full0 false _ _ ?_
  simp
  apply hK; clear hK K
  rw [← hv0]
  have y1 : (Ha ++ [AObj.row [v] 0 0 false, AObj.row [AV.bool false] 0 0 false])[H.length + 2]? = some (.row [v] 0 0 false) := by rw [← z0]; simp
  have y2 : (Ha ++ [AObj.row [v] 0 0 false, AObj.row [AV.bool false] 0 0 false])[H.length + 3]? = some (.row [.bool false] 0 0 false) := by rw [show H.length + 3 = Ha.length + 1 by omega]; simp
  have yE : Ext Ha (Ha ++ [AObj.row [v] 0 0 false, AObj.row [AV.bool false] 0 0 false]) := .push _ _
  have yl : (Ha ++ [AObj.row [v] 0 0 false, AObj.row [AV.bool false] 0 0 false]).length = H.length + 4 := by simp [z0]
  have z1 := yE.row z1
  have z2 := yE.row z2
  have zE := zE.trans yE
  generalize Ha ++ [AObj.row [v] 0 0 false, AObj.row [AV.bool false] 0 0 false] = H1 at y1 y2 yE yl z1 z2 zE ⊢
  rw [z0]
  refine L_block (L_range [2, 3] rfl (okFn_low (by omega) (by omega)) ?_)
  generalize hL : (⟨17, _, _, _, _⟩ : LR) = L
  have hnt : L.nt = 17 := by rw [← hL]
  have hps : L.ps = #[8, 9] := by rw [← hL]
  have hass := congrArg LR.assign hL.symm
  have he : L.e = [(2, .ptr H.length 0 0), (3, .ptr (H.length + 1) 0 0)] := by rw [← hL]; rfl
  have hbody := congrArg LR.body hL.symm
  clear hL
  rw [yl]
  generalize hp : H.length = p at *
  have hpl : (prs false l).length = l.length - 1 := prs_lenF (by simp)
  refine nb1_ac (p + 4) (p + 2) (p + 3) v l false (fun k H' => p + 5 ≤ H'.length ∧ H'[p + 2]? = some (.row [v] 0 0 false) ∧ H'[p + 3]? = some (.row [.bool false] 0 0 false) ∧ H'[p + 4]? = some (.loop .ready .normal L) ∧ Ext H H' ∧
      (∃ s, H'[p]? = some (.row [.bool false] 0 s false)) ∧ (∃ s, H'[p + 1]? = some (.row [.int .i64 (wantI k)] 0 s false)) ∧ ∀ i, i < k → altAt l i = true)
      (fun H' => altB l = false ∧ H'[p + 4]? = some (.loop .done .ret L) ∧ Ext H H' ∧ ∃ s, H'[p]? = some (.row [.bool false] 0 s false)) _ _ hlen ?_ ?_ ?_ ?_ ?_
  · rintro k H2 ⟨g0, g1, g2, g3, gE, -⟩
    exact ⟨⟨_, g1⟩, ⟨_, g2⟩, hv.ext gE⟩
  · rintro k a b H2 hk ⟨g0, g1, g2, g3, gE, ⟨s4, g4⟩, ⟨s5, g5⟩, g6⟩
    have hkl : k < l.length - 1 := by rw [← hpl]; exact (List.getElem?_eq_some_iff.1 hk).1
    have hab := prs_at (r := false) (l := l) (i := k) (by omega)
    rw [hk] at hab
    cases hab
    refine AYld_mkA g3 (by rw [hps]; rfl) (by rw [hps, hnt]; simp) ?_
    rw [hnt, hps, he, hass]
    refine L_reg [2, 3, 4, 9] (fun K hK => ?_)
    simp [psEnv]
    apply hK; clear hK K
    refine L_reg [2, 3, 4, 5] (fun K hK => ?_)
    simp
    apply hK; clear hK K
    refine ⟨rfl, .normal, L, g3, ?_⟩
    rw [hbody]
    generalize hH2b : H2.set (p + 4) (.loop .busy .normal L) = H2b
    have bl : H2b.length = H2.length := by rw [← hH2b]; simp
    have b4 : H2b[p]? = some (.row [.bool false] 0 s4 false) := by rw [← hH2b, set_ne (by omega)]; exact g4
    have b5 : H2b[p + 1]? = some (.row [.int .i64 (wantI k)] 0 s5 false) := by rw [← hH2b, set_ne (by omega)]; exact g5
    have bL : H2b[p + 4]? = some (.loop .busy .normal L) := by rw [← hH2b, List.getElem?_set_self (by omega)]
    have c1 : H2b[p + 2]? = some (.row [v] 0 0 false) := by rw [← hH2b, set_ne (by omega)]; exact g1
    have c2 : H2b[p + 3]? = some (.row [.bool false] 0 0 false) := by rw [← hH2b, set_ne (by omega)]; exact g2
    have bE : Ext H H2b := by rw [← hH2b]; exact gE.set _ (by omega)
    have e5 : ld H2b (p + 1) 0 0 = some (.int .i64 (wantI k)) := by rw [ld_row b5]; rfl
    have hwa := want_alt (l := l) (k := k)
    have hws := wantI_small k
    refine L_block ?_
    refine L_regQ mixed [2, 3, 14] (by kernel_rfl) (fun K hK => ?_)
    simp [okFn_low]
    refine exQ_mk (fun Q hQ => Compare_ac (g l k) (g l (k + 1)) H2b Q hQ) ?_
    simp [e5]
    apply hK; clear hK K
    by_cases hc : cmpI (g l k) (g l (k + 1)) = wantI k
    · refine L_false (by simp [hc]) ?_
      have hst2 := store_row (P := Try.prog) (u := 3) (p := 0) sc3 (x := .int .i64 (wantI (k + 1))) (y := .int .i64 (wantI k)) rfl b5 rfl
      have hws2 := wantI_small (k + 1)
      refine L_reg [] (fun K hK => ?_)
      simp [e5, want_next, wrap_i64 (a := wantI (k + 1)) (by omega), hst2]
      apply hK; clear hK K
      refine ⟨.busy, .normal, L, by rw [set_ne (by omega)]; exact bL, true, rfl, ?_⟩
      simp only [if_true]
      refine ⟨by simp; omega, ?_, ?_, ?_, ?_, ⟨s4, ?_⟩, ⟨0, ?_⟩, fun i hi => ?_⟩
      · rw [set_ne (by omega), set_ne (by omega)]; exact c1
      · rw [set_ne (by omega), set_ne (by omega)]; exact c2
      · rw [List.getElem?_set_self (by simp; omega)]
      · exact (bE.set _ (by omega)).set _ (by omega)
      · rw [set_ne (by omega), set_ne (by omega)]; exact b4
      · rw [set_ne (by omega), get_set b5]
      · rcases Nat.lt_or_ge i k with e | e
        · exact g6 i e
        · rw [show i = k by omega, hwa]; simp [hc]
    · refine L_true (by simp [hc]) ?_
      have hst2 := store_row (P := Try.prog) (u := 4) (p := 0) sc4 (x := .bool false) (y := .bool false) rfl b4 rfl
      refine L_reg [2] (fun K hK => ?_)
      simp [hst2]
      apply hK; clear hK K
      refine L_ret ⟨.busy, .normal, L, by rw [set_ne (by omega)]; exact bL, false, rfl, ?_⟩
      refine ⟨altB_no (i := k) (by omega) (by rw [hwa]; simpa using hc), ?_, ?_, ?_⟩
      · rw [List.getElem?_set_self (by simp; omega)]; rfl
      · exact (bE.set _ (by omega)).set _ (by omega)
      · exact ⟨_, by rw [set_ne (by omega), get_set b4]⟩
  · have hin : ∀ j, j < H1.length → (H1 ++ [AObj.loop .ready .normal L])[j]? = H1[j]? := fun j hj => List.getElem?_append_left hj
    refine ⟨by simp; omega, ?_, ?_, by rw [← yl]; simp, zE.trans (.push _ _), ⟨0, ?_⟩, ⟨0, ?_⟩, fun i hi => by omega⟩
    · rw [hin _ (by omega)]; exact y1
    · rw [hin _ (by omega)]; exact y2
    · rw [hin _ (by omega)]; exact z1
    · rw [hin _ (by omega)]; exact z2
  · rintro H2 ⟨g0, g1, g2, g3, gE, ⟨s4, g4⟩, ⟨s5, g5⟩, g6⟩
    refine ⟨.ready, .normal, L, g3, by simp, ?_⟩
    have b4 : (H2.set (p + 4) (.loop .exhausted .normal L))[p]? = some (.row [.bool false] 0 s4 false) := by rw [set_ne (by omega)]; exact g4
    have hst2 := store_row (P := Try.prog) (u := 4) (p := 0) sc4 (x := .bool true) (y := .bool false) rfl b4 rfl
    have halt : altB l = true := altB_iff.2 fun i hi => g6 i (by rw [hpl]; omega)
    rw [halt] at h
    show AWL _ _ _ _ _ _
    refine L_reg [2] (fun K hK => ?_)
    simp [hst2]
    apply hK; clear hK K
    have b6 := get_set (o' := AObj.row [.bool true] 0 0 false) b4
    refine L_ret ⟨.inr rfl, .bool true, ?_, h _ ((gE.set _ (by omega)).set _ (by omega))⟩
    have h1 : aRes1 Try.prog [(2, AV.ptr p 0 0)] ((H2.set (p + 4) (.loop .exhausted .normal L)).set p (AObj.row [.bool true] 0 0 false)) (.cell 2 4) = some (.bool true) := by
      show loadV Try.prog 4 _ (.ptr p 0 0) = _
      rw [ld4, ld_row b6]; rfl
    show (aResList Try.prog _ _ [.cell 2 4]).map _ = some _
    simp only [aResList]
    rw [h1]; rfl
  · rintro H2 ⟨g0, g1, gE, s4, g4⟩
    rw [g0] at h
    refine ⟨.done, .ret, L, g1, by simp, ?_⟩
    have b4 : (H2.set (p + 4) (.loop .exhausted .ret L))[p]? = some (.row [.bool false] 0 s4 false) := by rw [set_ne (by omega)]; exact g4
    refine ⟨.inr rfl, .bool false, ?_, h _ (gE.set _ (by omega))⟩
    have h1 : ∀ e : Env, eget e 2 = .ptr p 0 0 → aRes1 Try.prog e (H2.set (p + 4) (.loop .exhausted .ret L)) (.cell 2 4) = some (.bool false) := fun e he => by
      show loadV Try.prog 4 _ (eget e 2) = _
      rw [he, ld4, ld_row b4]; rfl
    show (aResList Try.prog _ _ [.cell 2 4]).map _ = some _
    simp only [aResList]
    rw [h1 _ rfl]; rfl
end Go.Proofs.Ytpfkioakjmpimaa

/- The examples that each law ends with. -/
namespace Go.Proofs.Ytpfkioakjmpimaa
open Go Go.Proofs.Ytpfkioakjmpimaa.AX

noncomputable def forceL {α : Type} : List Int → (List Int → α) → α
  | [], k => k []
  | x :: l, k => forceI x fun x => forceL l fun l => k (x :: l)
theorem forceL_eq {α : Type} : ∀ (l : List Int) (k : List Int → α), forceL l k = k l
  | [], _ => rfl
  | x :: l, k => by simp only [forceL, forceI_eq, forceL_eq l]
/-- The best one, reckoned at once. -/
noncomputable def qb (c : List Int → Int) : List (List Int) → Int → List Int → List Int
  | [], _, b => b
  | p :: L, cb, b => forceL p fun p => forceI (c p) fun cp => bif decide (cb < cp) then qb c L cb b else bif decide (cp < cb) then qb c L cp p else bif decide (Arr.le b p) then qb c L cb b else qb c L cp p
theorem qb_eq (c : List Int → Int) : ∀ (L : List (List Int)) (b : List Int), qb c L (c b) b = L.foldl (Arr.pick c) b
  | [], b => rfl
  | p :: L, b => by
    have hpk : Arr.pick c b p = if Arr.bet c b p then b else p := rfl
    simp only [qb, forceL_eq, forceI_eq, List.foldl_cons]
    rw [hpk]
    by_cases h1 : c b < c p
    · rw [if_pos (.inl h1)]
      simp [h1, qb_eq c L b]
    · by_cases h2 : c p < c b
      · rw [if_neg (fun h => by rcases h with h | ⟨h, -⟩ <;> omega)]
        simp [h1, h2, qb_eq c L p]
      · by_cases h3 : Arr.le b p
        · rw [if_pos (.inr ⟨by omega, h3⟩)]
          simp [h1, h2, h3, qb_eq c L b]
        · rw [if_neg (fun h => by
            rcases h with h | ⟨-, h⟩
            · omega
            · exact h3 h)]
          simp [h1, h2, h3, qb_eq c L p]
noncomputable def bestQ (c : List Int → Int) (l : List Int) : List Int := forceI (c l) fun x => qb c (Arr.perms l) x l
theorem bestQ_eq (c : List Int → Int) (l : List Int) : bestQ c l = Arr.bestS c l := by
  unfold bestQ Arr.bestS
  rw [forceI_eq, qb_eq]
def readI : List AV → Option (List Int)
  | [] => some []
  | .int .i64 a :: rest => match readI rest with
    | some l => some (a :: l)
    | none => none
  | _ => none
theorem readI_get : ∀ {vs : List AV} {l : List Int}, readI vs = some l → vs = l.map (.int .i64)
  | [], l, h => by simp [readI] at h; subst h; rfl
  | v :: vs, l, h => by
    unfold readI at h
    split at h
    case h_1 => rename_i h0; cases h0
    case h_3 => cases h
    rename_i a rest heq
    cases heq
    split at h
    case h_2 => cases h
    rename_i l' hl
    cases h
    rw [readI_get hl]; rfl
noncomputable def boxX (args : List AV) (H : AH) : Option (AV × AH) := match args with
  | [.slice (some r) off len ver sz _, .func (.func f) [] [.ptr pr 0 0]] =>
    match ldn H r ver len off, H[pr]? with
    | some vs, some (.row [.bool b] 0 _ false) => match readI vs with
      | some l => bif Nat.beq sz 1 && Nat.ble 1 len && Nat.ble len 127 && l.all (fun x => decide (-1000 ≤ x) && decide (x ≤ 1000)) then
          bif Nat.beq f 71 then forceL (bestQ (stepC b) l) fun m => forceN H.length fun n => some (.slice (some n) 0 len 0 1 false, H ++ [.row (m.map (.int .i64)) 0 len false])
          else bif Nat.beq f 100 then forceL (bestQ (fun p => -sumC b p) l) fun m => forceN H.length fun n => some (.slice (some n) 0 len 0 1 false, H ++ [.row (m.map (.int .i64)) 0 len false]) else none
        else none
      | none => none
    | _, _ => none
  | _ => none
theorem boxX_ok {args : List AV} {H : AH} {v : AV} {H' : AH} (h : boxX args H = some (v, H')) : AC Try.prog 70 args H fun v' H2 => v' = v ∧ H2 = H' := by
  unfold boxX at h
  split at h
  case h_2 => cases h
  rename_i r off len ver sz full f pr
  split at h
  case h_2 => cases h
  rename_i vs b st hvs hb
  split at h
  case h_2 => cases h
  rename_i l hl
  cases hc : (Nat.beq sz 1 && Nat.ble 1 len && Nat.ble len 127 && l.all (fun x => decide (-1000 ≤ x) && decide (x ≤ 1000))) with
  | false => rw [hc] at h; cases h
  | true =>
    rw [hc, cond_true] at h
    simp only [Bool.and_eq_true, List.all_eq_true, decide_eq_true_eq] at hc
    obtain ⟨⟨⟨h0, h1⟩, h2⟩, h3⟩ := hc
    obtain rfl := Nat.eq_of_beq_eq_true h0
    have h1 := Nat.le_of_ble_eq_true h1
    have h2 := Nat.le_of_ble_eq_true h2
    have hvl := (ldn_part hvs).1
    have hv := readI_get hl
    have hll : l.length = len := by rw [← hvl, hv]; simp
    have hbd : Bd 1000 l := fun x hx => h3 x hx
    have hL : Ls H (.slice (some r) off len ver 1 full) l := by
      refine ⟨some r, off, ver, 1, full, by rw [hll], fun i hi => ⟨r, rfl, rfl, ?_⟩⟩
      have := (ldn_part hvs).2 i 1 (by omega)
      rw [hv] at this
      have e : ((l.map (AV.int .i64)).drop i).take 1 = [.int .i64 l[i]] := by
        rw [List.drop_eq_getElem_cons (by simpa using hi)]
        simp
      rw [e, ldn_succ] at this
      cases hx : ld H r (off + i) ver with
      | none => rw [hx] at this; cases this
      | some y => rw [hx] at this; simp [ldn_zero] at this; rw [this]
    have fin : ∀ (g : FuncId) (cost : List Int → Int), okFn Try.prog g = true → (∀ (H' : AH) (v' : AV) (p : List Int) (Q : AV → AH → Prop), Ext H H' → p.Perm l → Ls H' v' p → Q (.int .i64 (cost p)) H' → AC Try.prog g (v' :: [.ptr pr 0 0]) H' Q) →
        (forceL (bestQ cost l) fun m => forceN H.length fun n => some (AV.slice (some n) 0 len 0 1 false, H ++ [AObj.row (m.map (.int .i64)) 0 len false])) = some (v, H') →
        AC Try.prog 70 [.slice (some r) off len ver 1 full, .func (.func g) [] [.ptr pr 0 0]] H fun v' H2 => v' = v ∧ H2 = H' := by
      intro g cost hok hC h
      rw [forceL_eq, forceN_eq, bestQ_eq] at h
      have hp := (Arr.best_is cost l).1
      have hpl := hp.length_eq
      cases h
      refine AC.tidy (l := (Arr.bestS cost l).map (.int .i64)) (fun e => ?_) (belB_ints _ _) (fun Q hQ => cheapest_ac _ l g [.ptr pr 0 0] cost H Q (by omega) (by omega) hL hok hC hQ) _ ?_
      · have : (Arr.bestS cost l).length = 0 := by simpa using congrArg List.length e
        omega
      · rw [List.length_map, hpl, hll]; exact ⟨rfl, rfl⟩
    cases hf : Nat.beq f 71 with
    | true =>
      rw [hf, cond_true] at h
      obtain rfl := Nat.eq_of_beq_eq_true hf
      exact fin 71 (stepC b) (okFn_low (by omega) (by omega)) (fun H' v' p Q hE2 hp2 hv2 hQ => boxC_ac pr b v' p H' Q ⟨st, hE2.row hb⟩ (by have := hp2.length_eq; omega) (hbd.perm hp2) hv2 hQ) h
    | false =>
      rw [hf, cond_false] at h
      cases hf2 : Nat.beq f 100 with
      | true =>
        rw [hf2, cond_true] at h
        obtain rfl := Nat.eq_of_beq_eq_true hf2
        exact fin 100 (fun p => -sumC b p) (okFn_low (by omega) (by omega)) (fun H' v' p Q hE2 hp2 hv2 hQ => wideC_ac pr b v' p H' Q ⟨st, hE2.row hb⟩ (by have := hp2.length_eq; omega) (hbd.perm hp2) hv2 hQ) h
      | false => rw [hf2] at h; cases h
/-- A list read off its row. -/
noncomputable def readL (v : AV) (H : AH) : Option (List Int) := match v with
  | .slice (some r) off len ver sz _ => bif Nat.beq sz 1 && Nat.ble len 1000 then (match ldn H r ver len off with
    | some vs => match readI vs with
      | some l => bif l.all (fun x => decide (-1000 ≤ x) && decide (x ≤ 1000)) then some l else none
      | none => none
    | none => none) else none
  | _ => none
theorem readL_ok {v : AV} {H : AH} {l : List Int} (h : readL v H = some l) : Ls H v l ∧ l.length ≤ 1000 ∧ Bd 1000 l := by
  unfold readL at h
  split at h
  case h_2 => cases h
  rename_i r off len ver sz full
  cases hc : (Nat.beq sz 1 && Nat.ble len 1000) with
  | false => rw [hc] at h; cases h
  | true =>
    rw [hc, cond_true] at h
    simp only [Bool.and_eq_true] at hc
    obtain rfl := Nat.eq_of_beq_eq_true hc.1
    have h2 := Nat.le_of_ble_eq_true hc.2
    split at h
    case h_2 => cases h
    rename_i vs hvs
    split at h
    case h_2 => cases h
    rename_i m hl
    cases hb : m.all (fun x => decide (-1000 ≤ x) && decide (x ≤ 1000)) with
    | false => rw [hb] at h; cases h
    | true =>
      rw [hb, cond_true] at h
      cases h
      simp only [List.all_eq_true, Bool.and_eq_true, decide_eq_true_eq] at hb
      have hvl := (ldn_part hvs).1
      have hv := readI_get hl
      have hll : l.length = len := by rw [← hvl, hv]; simp
      refine ⟨⟨some r, off, ver, 1, full, by rw [hll], fun i hi => ⟨r, rfl, rfl, ?_⟩⟩, by omega, fun x hx => hb x hx⟩
      have := (ldn_part hvs).2 i 1 (by omega)
      rw [hv] at this
      have e : ((l.map (AV.int .i64)).drop i).take 1 = [.int .i64 l[i]] := by
        rw [List.drop_eq_getElem_cons (by simpa using hi)]
        simp
      rw [e, ldn_succ] at this
      cases hx : ld H r (off + i) ver with
      | none => rw [hx] at this; cases this
      | some y => rw [hx] at this; simp [ldn_zero] at this; rw [this]
noncomputable def forceB {α : Type} (b : Bool) (k : Bool → α) : α := Bool.rec (k false) (k true) b
theorem forceB_eq {α : Type} (b : Bool) (k : Bool → α) : forceB b k = k b := by cases b <;> rfl
noncomputable def stepX (c : Bool → List Int → Int) (args : List AV) (H : AH) : Option (AV × AH) := match args with
  | [v, .bool b] => match readL v H with
    | some l => forceI (c b l) fun x => some (.int .i64 x, H)
    | none => none
  | _ => none
theorem stepX_ok {f : FuncId} {c : Bool → List Int → Int} (hC : ∀ (v : AV) (l : List Int) (r : Bool) (H : AH) (Q : AV → AH → Prop), l.length ≤ 1000000 → Bd 1000 l → Ls H v l → Q (.int .i64 (c r l)) H → AC Try.prog f [v, .bool r] H Q) {args : List AV} {H : AH} {v : AV} {H' : AH} (h : stepX c args H = some (v, H')) : AC Try.prog f args H fun v' H2 => v' = v ∧ H2 = H' := by
  unfold stepX at h
  split at h
  case h_2 => cases h
  rename_i u b
  split at h
  case h_2 => cases h
  rename_i l hl
  rw [forceI_eq] at h
  cases h
  obtain ⟨h1, h2, h3⟩ := readL_ok hl
  exact hC u l b H _ (by omega) h3 h1 ⟨rfl, rfl⟩
noncomputable def turnX (args : List AV) (H : AH) : Option (AV × AH) := match args with
  | [v] => match readL v H with
    | some l => forceB (altB l) fun x => some (.bool x, H)
    | none => none
  | _ => none
theorem turnX_ok {args : List AV} {H : AH} {v : AV} {H' : AH} (h : turnX args H = some (v, H')) : AC Try.prog 76 args H fun v' H2 => v' = v ∧ H2 = H' := by
  unfold turnX at h
  split at h
  case h_2 => cases h
  rename_i u
  split at h
  case h_2 => cases h
  rename_i l hl
  rw [forceB_eq] at h
  cases h
  obtain ⟨h1, h2, h3⟩ := readL_ok hl
  exact turns_ac u l H _ (by omega) h1 ⟨rfl, rfl⟩
noncomputable def extB (f : FuncId) (args : List AV) (H : AH) : Option (AV × AH) :=
  bif Nat.beq f 70 then boxX args H else bif Nat.beq f 59 then stepX stepC args H else bif Nat.beq f 61 then stepX sumC args H else bif Nat.beq f 76 then turnX args H else none
theorem extB_ok {f : FuncId} {args : List AV} {H : AH} {v : AV} {H' : AH} (h : extB f args H = some (v, H')) : AC Try.prog f args H fun v' H2 => v' = v ∧ H2 = H' := by
  unfold extB at h
  cases h1 : Nat.beq f 70 with
  | true =>
    rw [h1, cond_true] at h
    obtain rfl := Nat.eq_of_beq_eq_true h1
    exact boxX_ok h
  | false =>
    rw [h1, cond_false] at h
    cases h2 : Nat.beq f 59 with
    | true =>
      rw [h2, cond_true] at h
      obtain rfl := Nat.eq_of_beq_eq_true h2
      exact stepX_ok greatest_q h
    | false =>
      rw [h2, cond_false] at h
      cases h3 : Nat.beq f 61 with
      | true =>
        rw [h3, cond_true] at h
        obtain rfl := Nat.eq_of_beq_eq_true h3
        exact stepX_ok sum_q h
      | false =>
        rw [h3, cond_false] at h
        cases h4 : Nat.beq f 76 with
        | true =>
          rw [h4, cond_true] at h
          obtain rfl := Nat.eq_of_beq_eq_true h4
          exact turnX_ok h
        | false => rw [h4, cond_false] at h; cases h
/-- The context in which the cheapest arrangement, steps and turns are reckoned at once. -/
noncomputable def cxb : Cx Try.prog where
  good := goodT
  keep := keepT
  ext := extB
theorem cxb_ok : cxb.Ok where
  mixed := cx_ok.mixed
  ord f h := cx_ok.ord f h
  ext _f _args _H _v _H' h := extB_ok h
end Go.Proofs.Ytpfkioakjmpimaa

/- The examples that each law ends with. -/
namespace Go.Proofs.Ytpfkioakjmpimaa
open Go Go.Proofs.Ytpfkioakjmpimaa.AX
set_option maxRecDepth 100000 in
theorem works_run : callN (runZ cxb 3000) 15 [] [] = some (.bool true, []) := by kernel_rfl
theorem works_ac (H : AH) (Q : AV → AH → Prop) (h : Q (.bool true) H) : AC Try.prog 15 [] H Q := AC_kernZ cxb_ok 3000 works_run .nil (.bool _) h
/-- The same context, in which the examples are known, too. -/
noncomputable def cxw : Cx Try.prog where
  good := goodT
  keep := keepT
  ext f args H := bif Nat.beq f 15 then (match args with | [] => some (.bool true, H) | _ => none) else extB f args H
theorem cxw_ok : cxw.Ok where
  mixed := cx_ok.mixed
  ord f h := cx_ok.ord f h
  ext f args H v H' h := by
    simp only [cxw] at h
    cases hf : Nat.beq f 15 with
    | false =>
      rw [hf, cond_false] at h
      exact cxb_ok.ext f args H v H' h
    | true =>
      have := Nat.eq_of_beq_eq_true hf
      subst this
      rw [hf] at h
      cases args with
      | nil => simp at h; obtain ⟨rfl, rfl⟩ := h; exact works_ac _ _ ⟨rfl, rfl⟩
      | cons a l => simp at h
end Go.Proofs.Ytpfkioakjmpimaa

/- The laws of boxes: steps, least steps and greatest sums are as the reference says. -/
namespace Go.Proofs.Ytpfkioakjmpimaa
open Go Go.Proofs.Ytpfkioakjmpimaa.AX

theorem same_ac (u v : AV) (l m : List Int) (H : AH) (Q : AV → AH → Prop) (hl : l.length ≤ 1048576) (hu : Ls H u l) (hv : Ls H v m) (h : Q (.bool (decide (l = m))) H) : AC Try.prog 30 [u, v] H Q := by
  obtain ⟨r, off, ver, sz, full, rfl, hu⟩ := hu
  obtain ⟨r2, off2, ver2, sz2, full2, rfl, hv⟩ := hv
  refine L_body 26 Try.func30 rfl rfl ?_
  refine L_reg [0, 1] (fun K hK => ?_)
  simp
  apply hK; clear hK K
  refine L_reg [0, 1, 10] (fun K hK => ?_)
  simp
  apply hK; clear hK K
  by_cases hlen : l.length = m.length
  case neg =>
    refine L_true (by simp; omega) ?_
    refine L_reg [4] (fun K hK => ?_)
    simp
    apply hK; clear hK K
    have : l ≠ m := fun e => hlen (by rw [e])
    rw [decide_eq_false this] at h
    exact L_ret ⟨.inr rfl, _, rfl, h⟩
  refine L_false (by simp [hlen]) ?_
  refine L_reg [0, 1, 5] (fun K hK => ?_)
  simp
  apply hK; clear hK K
  refine L_block (L_loopV [5] (fun k vs H' => ∃ (i : Nat), k = l.length - i ∧ i ≤ l.length ∧ (l.drop i = m.drop i → l = m) ∧ vs = [.int .i64 i] ∧ H' = H) _ [.int .i64 (0 : Nat)] rfl ⟨0, rfl, by omega, by simp, rfl, rfl⟩ ?_)
  rintro k _ _ ⟨i, rfl, hi, hs, rfl, rfl⟩
  refine L_reg [0, 1, 5, 14] (fun K hK => ?_)
  simp
  apply hK; clear hK K
  refine L_dec (i < l.length) (by simp) (fun hlt => ?_) (fun hge => L_exit ?_)
  · obtain ⟨r', rfl, rfl, hld⟩ := hu i hlt
    obtain ⟨r3, rfl, rfl, hld2⟩ := hv i (by omega)
    rw [List.drop_eq_getElem_cons hlt, List.drop_eq_getElem_cons (by omega : i < m.length)] at hs
    refine L_block ?_
    refine L_regT mixed [0, 1, 5, 25] (by kernel_rfl) (fun K hK => ?_)
    simp [hlt, ← hlen, hld, hld2]
    apply hK; clear hK K
    by_cases he : l[i] = m[i]
    · refine L_false (by simp [he]) ?_
      rw [he] at hs
      refine L_reg [0, 1, 5] (fun K hK => ?_)
      simp [wrap_i64 (a := (i : Int) + 1) (by omega)]
      apply hK; clear hK K
      exact ⟨l.length - (i + 1), [.int .i64 (i + 1 : Nat)], by omega, by simp [hlen], i + 1, rfl, by omega, fun e => hs (by rw [e]), rfl, rfl⟩
    · refine L_true (by simp [he]) ?_
      refine L_reg [4] (fun K hK => ?_)
      simp
      apply hK; clear hK K
      have : l ≠ m := fun e => he (by subst e; rfl)
      rw [decide_eq_false this] at h
      exact L_ret ⟨.inr rfl, _, rfl, h⟩
  · refine L_reg [4] (fun K hK => ?_)
    simp
    apply hK; clear hK K
    have : l = m := hs (by rw [List.drop_eq_nil_of_le (by omega), List.drop_eq_nil_of_le (by omega)])
    rw [decide_eq_true this] at h
    exact L_ret ⟨.inr rfl, _, rfl, h⟩
theorem shadeSteps_ac (v : AV) (l : List Int) (r : Bool) (i s : Int) (H : AH) (hv : Ls H v l) : AC Try.prog 3 [v, .bool r, .int .i64 i, .int .i64 s] H fun u _ => u = .bool true := by
  have hl := ls_len hv
  refine L_body 86 Try.func3 rfl rfl ?_
  refine L_reg [0, 1, 2, 3] (fun K hK => ?_)
  simp
  apply hK; clear hK K
  refine L_reg [0, 1, 2, 3, 19] (fun K hK => ?_)
  simp [hl]
  apply hK; clear hK K
  refine L_dec ((60 : Int) < l.length) (by simp) (fun h0 => ?_) (fun h0 => ?_)
  · refine L_reg [8] (fun K hK => ?_)
    simp [okFn_low]
    refine works_ac _ _ ?_
    simp
    apply hK; clear hK K
    exact L_ret ⟨.inr rfl, _, rfl, rfl⟩
  have h1 : l.length ≤ 60 := by omega
  refine L_reg [0, 1, 2, 3, 9, 10] (fun K hK => ?_)
  simp [okFn_low]
  refine Step_ac v l r _ _ (by omega) hv ?_
  simp
  apply hK; clear hK K
  refine L_reg [0, 1, 2, 3, 9, 10, 11, 12] (fun K hK => ?_)
  simp [okFn_low]
  refine StepR_ac v l r _ _ (by omega) hv ?_
  simp
  apply hK; clear hK K
  refine L_reg [0, 1, 2, 3, 9, 10, 11, 12, 13, 14] (fun K hK => ?_)
  simp [okFn_low]
  refine Sum_ac v l r _ _ (by omega) hv ?_
  simp
  apply hK; clear hK K
  refine L_reg [0, 1, 2, 3, 9, 10, 11, 12, 13, 14, 15, 16] (fun K hK => ?_)
  simp [okFn_low]
  refine SumR_ac v l r _ _ (by omega) hv ?_
  simp
  apply hK; clear hK K
  refine L_reg [8] (fun K hK => ?_)
  simp [okFn_low, pickV]
  refine Check_ac v l _ _ (by omega) hv ?_
  simp [okFn_low]
  refine CheckR_ac v l _ _ (by omega) hv ?_
  simp [okFn_low, pickV]
  refine Proves_ac v l r i s _ _ (by omega) hv ?_
  simp [okFn_low]
  refine ProvesR_ac v l r i s _ _ (by omega) hv ?_
  simp [okFn_low, pickV]
  refine works_ac _ _ ?_
  simp [pickV]
  apply hK; clear hK K
  exact L_ret ⟨.inr rfl, _, rfl, rfl⟩
theorem shadeBoxes_ac (v : AV) (l : List Int) (r : Bool) (H : AH) (hv : Ls H v l) : AC Try.prog 4 [v, .bool r] H fun u _ => u = .bool true := by
  have hl := ls_len hv
  refine L_body 88 Try.func4 rfl rfl ?_
  refine L_reg [0, 1] (fun K hK => ?_)
  simp
  apply hK; clear hK K
  refine L_reg [0, 1, 19] (fun K hK => ?_)
  simp [hl]
  apply hK; clear hK K
  refine L_dec ((60 : Int) < l.length) (by simp) (fun h0 => ?_) (fun h0 => ?_)
  · refine L_reg [4] (fun K hK => ?_)
    simp [okFn_low]
    refine works_ac _ _ ?_
    simp
    apply hK; clear hK K
    exact L_ret ⟨.inr rfl, _, rfl, rfl⟩
  have h1 : l.length ≤ 60 := by omega
  have hol : (orNil (shE l) (boxS r l)).length ≤ 60 := by
    unfold orNil
    split
    · rw [(boxS_perm r l).length_eq]; exact h1
    · simp
  refine L_reg [0, 1, 5, 6] (fun K hK => ?_)
  simp [okFn_low]
  refine Least_ac v l r _ _ (by omega) hv ?_
  simp
  apply hK; clear hK K
  refine L_reg [0, 1, 5, 6, 7, 8] (fun K hK => ?_)
  simp [okFn_low]
  refine LeastR_ac v l r _ _ (by omega) hv ?_
  simp
  apply hK; clear hK K
  refine L_reg [0, 1, 5, 6, 7, 8, 9, 10] (fun K hK => ?_)
  simp [okFn_low]
  refine Box_ac v l r _ _ (by omega) hv (fun w H1 hO hE => ?_)
  simp
  apply hK; clear hK K
  have hv1 := hv.ext hE
  refine L_reg [0, 1, 5, 6, 7, 8, 9, 10, 11, 12] (fun K hK => ?_)
  simp [okFn_low]
  refine BoxR_ac v l r _ _ (by omega) hv1 (fun w2 H2 hw2 hE2 => ?_)
  simp
  apply hK; clear hK K
  have hv2 := hv1.ext hE2
  refine L_reg [0, 1, 5, 6, 7, 8, 9, 10, 11, 12, 13, 14] (fun K hK => ?_)
  simp [okFn_low]
  refine Why_ac v l r _ _ (by omega) hv2 ?_
  simp
  apply hK; clear hK K
  refine L_reg [5, 6, 7, 8, 9, 10, 11, 12, 13, 14, 15, 16] (fun K hK => ?_)
  simp [okFn_low]
  refine WhyR_ac v l r _ _ (by omega) hv2 ?_
  simp
  apply hK; clear hK K
  refine L_reg [4] (fun K hK => ?_)
  simp [okFn_low, pickV]
  refine same_ac w w2 _ _ _ _ (by omega) (hO.own.ls.ext hE2) hw2 ?_
  simp [okFn_low, pickV]
  refine works_ac _ _ ?_
  simp [pickV]
  apply hK; clear hK K
  exact L_ret ⟨.inr rfl, _, rfl, rfl⟩
theorem shadeWides_ac (v : AV) (l : List Int) (r : Bool) (H : AH) (hv : Ls H v l) : AC Try.prog 5 [v, .bool r] H fun u _ => u = .bool true := by
  have hl := ls_len hv
  refine L_body 62 Try.func5 rfl rfl ?_
  refine L_reg [0, 1] (fun K hK => ?_)
  simp
  apply hK; clear hK K
  refine L_reg [0, 1, 15] (fun K hK => ?_)
  simp [hl]
  apply hK; clear hK K
  refine L_dec ((60 : Int) < l.length) (by simp) (fun h0 => ?_) (fun h0 => ?_)
  · refine L_reg [4] (fun K hK => ?_)
    simp [okFn_low]
    refine works_ac _ _ ?_
    simp
    apply hK; clear hK K
    exact L_ret ⟨.inr rfl, _, rfl, rfl⟩
  have h1 : l.length ≤ 60 := by omega
  have hol : (orNil (shE l) (wideS r l)).length ≤ 60 := by
    unfold orNil
    split
    · rw [(wideS_perm r l).length_eq]; exact h1
    · simp
  refine L_reg [0, 1, 5, 6] (fun K hK => ?_)
  simp [okFn_low]
  refine Most_ac v l r _ _ (by omega) hv ?_
  simp
  apply hK; clear hK K
  refine L_reg [0, 1, 5, 6, 7, 8] (fun K hK => ?_)
  simp [okFn_low]
  refine MostR_ac v l r _ _ (by omega) hv ?_
  simp
  apply hK; clear hK K
  refine L_reg [0, 1, 5, 6, 7, 8, 9, 10] (fun K hK => ?_)
  simp [okFn_low]
  refine Wide_ac v l r _ _ (by omega) hv (fun w H1 hO hE => ?_)
  simp
  apply hK; clear hK K
  have hv1 := hv.ext hE
  refine L_reg [5, 6, 7, 8, 9, 10, 11, 12] (fun K hK => ?_)
  simp [okFn_low]
  refine WideR_ac v l r _ _ (by omega) hv1 (fun w2 H2 hw2 hE2 => ?_)
  simp
  apply hK; clear hK K
  refine L_reg [4] (fun K hK => ?_)
  simp [okFn_low, pickV]
  refine same_ac w w2 _ _ _ _ (by omega) (hO.own.ls.ext hE2) hw2 ?_
  simp [okFn_low, pickV]
  refine works_ac _ _ ?_
  simp [pickV]
  apply hK; clear hK K
  exact L_ret ⟨.inr rfl, _, rfl, rfl⟩
end Go.Proofs.Ytpfkioakjmpimaa

/- What the laws make of numbers: trays, steps, sums. -/
namespace Go.Proofs.Ytpfkioakjmpimaa
open Go Go.Proofs.Ytpfkioakjmpimaa.AX

theorem slice_tail {P : Program} {t : TypeId} {n z : Nat} (h : arSz P t = some (n, z)) (hn : 0 < n) (hz : 0 < z) {H : AH} {r off ver s : Nat} {c : List AV} {k : IntKind} {m : Nat} (hr : H[r]? = some (.row c ver s false)) (hc : off + n * z = c.length) (hk : ∀ v ∈ c, v ≠ .undef) (hm : m ≤ n) :
    sliceR P t H (.ptr r off ver) none (some (.int k (m : Int))) none = some (.slice (some r) (off + 0) m ver z false) := by
  unfold arSz at h
  split at h
  case h_2 => cases h
  rename_i n' e hu
  obtain ⟨ie, hie, h⟩ := Option.map_eq_some_iff.1 h
  cases h
  have hmul : 0 < n * ie.size := Nat.mul_pos hn hz
  have h2 : (ld H r (off + n * ie.size - 1) ver).isSome = true := by
    rw [ld_row hr]
    have hlt : off + n * ie.size - 1 < c.length := by omega
    rw [List.getElem?_eq_getElem hlt]
    have := hk _ (List.getElem_mem hlt)
    generalize c[off + n * ie.size - 1] = v at this
    cases v <;> first | rfl | exact absurd rfl this
  have h3 : endOk H r (off + n * ie.size) = true := by simp [endOk, hr]; omega
  simp [sliceR, hu, hie, hn, hz, h2, h3, aBounds, aBound, hm, partOf]
/-- Bytes. -/
def By (n : Nat) (ws : List Int) : Prop := ws.length = n ∧ ∀ x ∈ ws, 0 ≤ x ∧ x < 256
theorem By.g {n : Nat} {ws : List Int} (h : By n ws) {i : Nat} (hi : i < n) : 0 ≤ Go.Proofs.Ytpfkioakjmpimaa.g ws i ∧ Go.Proofs.Ytpfkioakjmpimaa.g ws i < 256 := h.2 _ (gmem (by rw [h.1]; exact hi))
/-- How many shades a tray has, and which. -/
def trayN (ws : List Int) (most : Nat) : Nat := 1 + (g ws 0).toNat % most
def trayS (ws : List Int) (most : Nat) : List Int := (List.range (trayN ws most)).map fun i => g ws (1 + i) % 61
theorem trayN_le {ws : List Int} {most : Nat} (h : 0 < most) : 1 ≤ trayN ws most ∧ trayN ws most ≤ most := by
  have := Nat.mod_lt (g ws 0).toNat h
  unfold trayN; omega
theorem trayS_len (ws : List Int) (most : Nat) : (trayS ws most).length = trayN ws most := by simp [trayS]
theorem trayS_ok {ws : List Int} {most : Nat} (_hw : By 8 ws) (h : 0 < most) (hm : most ≤ 7) : shE (trayS ws most) = 0 := by
  have hl := trayS_len ws most
  obtain ⟨h1, h2⟩ := trayN_le (ws := ws) h
  refine shE_all (by omega) (by omega) fun i hi => ?_
  obtain ⟨x, hx⟩ : ∃ x, x = g (trayS ws most) i := ⟨_, rfl⟩
  have hm2 := gmem hi
  rw [← hx] at hm2 ⊢
  simp only [trayS, List.mem_map, List.mem_range] at hm2
  obtain ⟨j, hj, rfl⟩ := hm2
  omega
theorem bytes_known {ws : List Int} : ∀ v ∈ ws.map (AV.int .u8), v ≠ .undef := by
  intro v hv
  obtain ⟨i, -, rfl⟩ := List.mem_map.1 hv
  simp
theorem rem_int {a : Int} (h : 0 ≤ a) (b : Nat) : a.tmod (b : Int) = ((a.toNat % b : Nat) : Int) := by
  obtain ⟨n, rfl⟩ : ∃ n : Nat, a = n := ⟨a.toNat, by omega⟩
  rw [Int.tmod_eq_emod_of_nonneg (by omega)]
  simp
theorem ld_by {H : AH} {p s : Nat} {ws : List Int} (hr : H[p]? = some (.row (ws.map (.int .u8)) 0 s false)) {i : Nat} (hi : i < ws.length) : ld H p i 0 = some (.int .u8 (g ws i)) := by
  rw [ld_row hr, g_lt hi]
  simp [hi]
set_option maxRecDepth 100000 in
theorem made_ac (ws : List Int) (most : Nat) (hw : By 8 ws) (h0 : 0 < most) (hm : most ≤ 7) (H : AH) (Q : AV → AH → Prop) (h : ∀ v H', OwnF H.length H' v ((trayS ws most).map (.int .i64)) → Ext H H' → Q v H') : AC Try.prog 45 [.agg (ws.map (.int .u8)), .int .i64 most] H Q := by
  refine L_body 29 Try.func45 rfl rfl ?_
  refine L_reg [1, 2] (fun K hK => ?_)
  simp [AV.isU, acells]
  apply hK; clear hK K
  have hE0 : Ext H (H ++ [AObj.row (ws.map (.int .u8)) 0 0 false]) := .push _ _
  have r0 : (H ++ [AObj.row (ws.map (AV.int .u8)) 0 0 false])[H.length]? = some (.row (ws.map (.int .u8)) 0 0 false) := by simp
  have hl1 : (H ++ [AObj.row (ws.map (AV.int .u8)) 0 0 false]).length = H.length + 1 := by simp
  generalize H ++ [AObj.row (ws.map (.int .u8)) 0 0 false] = H1 at *
  generalize hp : H.length = p at *
  refine L_reg [1, 2, 5] (fun K hK => ?_)
  simp
  apply hK; clear hK K
  obtain ⟨n1, n2⟩ := trayN_le (ws := ws) h0
  have hwl := hw.1
  have l0 := ld_by r0 (i := 0) (by omega)
  have b0 := hw.g (i := 0) (by omega)
  have hrem := rem_int b0.1 most
  have hne : most ≠ 0 := by omega
  have hN : 1 + (((g ws 0).toNat % most : Nat) : Int) = (trayN ws most : Int) := by simp [trayN]
  have hpt := slice_tail ar41 (by decide) (by decide) (k := .i64) (m := trayN ws most) (off := 1) r0 (by simp [hwl]) bytes_known (by omega)
  have hTl := trayS_len ws most
  have hget : ∀ i, i < trayN ws most → (trayS ws most).take (i + 1) = (trayS ws most).take i ++ [g ws (1 + i) % 61] := fun i hi => by
    rw [List.take_add_one]
    congr 1
    unfold trayS
    rw [List.getElem?_map, List.getElem?_range hi]
    rfl
  generalize trayS ws most = T at *
  generalize trayN ws most = n at *
  refine L_reg [5, 15, 16, 17] (fun K hK => ?_)
  simp [l0, wrap_i64 (a := g ws 0) (by omega), hne, hrem, hN, wrap_i64 (a := (n : Int)) (by omega), -Int.natCast_emod, noSlice ar41, hpt]
  apply hK; clear hK K
  refine L_block (L_loopV [5, 17] (fun k vs H' => ∃ (i : Nat) (u : AV), k = n - i ∧ i ≤ n ∧ vs = [u, .int .i64 i] ∧ OwnF (p + 1) H' u ((T.take i).map (.int .i64)) ∧ Ext H1 H') _ [.slice none 0 0 0 1 false, .int .i64 0] rfl ⟨0, _, rfl, by omega, rfl, .nil _ _, .refl _⟩ ?_)
  rintro k _ H2 ⟨i, u, rfl, hi, rfl, hO, hE⟩
  refine L_reg [5, 15, 16, 17, 18] (fun K hK => ?_)
  simp
  apply hK; clear hK K
  refine L_dec (i < n) (by simp) (fun hlt => ?_) (fun hge => L_exit ?_)
  · refine L_block ?_
    have hr2 := hE.row r0
    have hld := ld_by hr2 (i := 1 + i) (by omega)
    have bi := hw.g (i := 1 + i) (by omega)
    have htk := hget i hlt
    generalize g ws (1 + i) = x at *
    have e61 : x.tmod 61 = x % 61 := Int.tmod_eq_emod_of_nonneg bi.1
    obtain ⟨v', H4, happ, hO4, hE14⟩ := ownF_append (P := Try.prog) hE el22 el22 (x := .int .i64 (x % 61)) (m := 1) (by rw [hl1]; exact hO) rfl (by simp; omega)
    rw [hl1] at hO4
    refine L_reg [5, 7, 15, 16, 17] (fun K hK => ?_)
    simp [hld, hlt]
    apply hK; clear hK K
    refine L_reg [5, 15, 16, 17] (fun K hK => ?_)
    simp [wrap_i64 (a := x) (by omega), e61, happ]
    apply hK; clear hK K
    refine L_reg [5, 15, 16, 17] (fun K hK => ?_)
    simp [wrap_i64 (a := (i : Int) + 1) (by omega)]
    apply hK; clear hK K
    exact ⟨n - (i + 1), [v', .int .i64 (i + 1 : Nat)], by omega, by simp, i + 1, v', rfl, by omega, rfl, by rw [htk]; simpa using hO4, hE14⟩
  · rw [List.take_of_length_le (by omega)] at hO
    refine L_reg [4] (fun K hK => ?_)
    simp
    apply hK; clear hK K
    exact L_ret ⟨.inr rfl, _, rfl, h u H2 (hO.mono (by omega)) (hE0.trans hE)⟩
set_option maxRecDepth 100000 in
theorem stepsL_ac (v : AV) (l : List Int) (r : Bool) (H : AH) (Q : AV → AH → Prop) (hlen : l.length ≤ 1000000) (hb : Bd 1000 l) (hv : Ls H v l)
    (h : ∀ v H', OwnF H.length H' v ((stepsS r l).map (.int .i64)) → Ext H H' → Q v H') : AC Try.prog 51 [v, .bool r] H Q := by
  have hl := ls_len hv
  refine L_body 49 Try.func51 rfl rfl ?_
  refine L_reg [0, 1] (fun K hK => ?_)
  simp
  apply hK; clear hK K
  refine L_reg [0, 1, 5] (fun K hK => ?_)
  simp
  apply hK; clear hK K
  refine L_reg [0, 1, 5, 9, 10] (fun K hK => ?_)
  simp [hl]
  apply hK; clear hK K
  have hslen := stepsS_len r l
  have hstart : ∀ i, i + 1 < l.length → (stepsS r l).take (i + 1) = (stepsS r l).take i ++ [df (g l i) (g l (i + 1))] := fun i hi => by
    unfold stepsS
    rw [List.take_append_of_le_length (by rw [stp_len]; omega), List.take_append_of_le_length (by rw [stp_len]; omega), stp_take hi]
  refine L_block (L_loopV [5, 10] (fun k vs H' => ∃ (i : Nat) (w : AV), k = l.length - i ∧ (i + 1 ≤ l.length ∨ i = 0 ∨ (i = l.length ∧ r = true ∧ 1 < l.length)) ∧ vs = [w, .int .i64 i] ∧ OwnF H.length H' w (((stepsS r l).take i).map (.int .i64)) ∧ Ext H H') _ [.slice none 0 0 0 1 false, .int .i64 0] rfl ⟨0, _, rfl, by omega, rfl, .nil _ _, .refl _⟩ ?_)
  rintro n _ H1 ⟨i, w, rfl, hi, rfl, hO, hE⟩
  have hv1 := hv.ext hE
  refine L_reg [0, 1, 5, 9, 10, 11] (fun K hK => ?_)
  simp
  apply hK; clear hK K
  refine L_dec (i < l.length) (by simp) (fun hlt => ?_) (fun hge => L_exit ?_)
  · refine L_block ?_
    have b1 := sh_g hb hlt
    obtain ⟨rz, pz, vz, hix, hld⟩ := ls_ix hv1 hlt
    refine L_reg [0, 1, 5, 6, 9, 10] (fun K hK => ?_)
    simp
    apply hK; clear hK K
    refine L_reg [0, 1, 5, 6, 7, 9, 10] (fun K hK => ?_)
    simp [wrap_i64 (a := (i : Int) + 1) (by omega)]
    apply hK; clear hK K
    refine L_reg [0, 1, 5, 6, 7, 9, 10, 18] (fun K hK => ?_)
    simp [hl]
    apply hK; clear hK K
    by_cases hlast : i + 1 = l.length
    · refine L_true (by simp; omega) ?_
      by_cases hr : r = true ∧ 1 < l.length
      · obtain ⟨rfl, hn⟩ := hr
        have e1 : (((i : Int) + 1) == 1) = false := by simp; omega
        refine L_reg [0, 1, 5, 6, 9, 10, 24] (fun K hK => ?_)
        simp [e1, pickV]
        apply hK; clear hK K
        refine L_false rfl ?_
        refine L_reg [0, 1, 5, 6, 7, 9, 10] (fun K hK => ?_)
        simp
        apply hK; clear hK K
        have b2 := sh_g hb (i := 0) (by omega)
        obtain ⟨ry, py, vy, hiy, hldy⟩ := ls_ix hv1 (i := 0) (by omega)
        have hiy0 : ∀ k, aIndexAddr Try.prog 22 v (.int k 0) = some (.ptr ry py vy) := hiy
        have hS : stepsS true l = (stepsS true l).take i ++ [df (g l i) (g l 0)] := by
          have e : stepsS true l = stp l ++ [df (g l (l.length - 1)) (g l 0)] := by unfold stepsS; rw [if_pos ⟨rfl, hn⟩]
          have ei : i = (stp l).length := by rw [stp_len]; omega
          rw [e, ei, List.take_left, stp_len]
        have hd : max (g l i - g l 0) (g l 0 - g l i) = df (g l i) (g l 0) := by unfold df; omega
        obtain ⟨v', H2, happ, hO2, hE2⟩ := ownF_append hE el22 el22 (x := .int .i64 (df (g l i) (g l 0))) (m := 1) hO rfl (by simp; omega)
        refine L_regT mixed [0, 1, 5, 9, 10] (by kernel_rfl) (fun K hK => ?_)
        simp [hix, hld, hiy0, hldy, wrap_i64 (a := g l i - g l 0) (by omega), wrap_i64 (a := g l 0 - g l i) (by omega), hd, happ]
        apply hK; clear hK K
        refine L_reg [0, 1, 5, 9, 10] (fun K hK => ?_)
        simp [wrap_i64 (a := (i : Int) + 1) (by omega)]
        apply hK; clear hK K
        refine ⟨l.length - (i + 1), [v', .int .i64 (i + 1 : Nat)], by omega, by simp, i + 1, v', rfl, .inr (.inr ⟨hlast, rfl, hn⟩), rfl, ?_, hE2⟩
        rw [List.take_of_length_le (by omega), hS]
        simpa using hO2
      · have hS : (stepsS r l).take i = stepsS r l := by
          unfold stepsS
          rw [if_neg hr, List.append_nil, List.take_of_length_le (by rw [stp_len]; omega)]
        rw [hS] at hO
        cases r with
        | false =>
          refine L_reg [0, 1, 5, 6, 9, 10, 24] (fun K hK => ?_)
          simp [pickV]
          apply hK; clear hK K
          refine L_true rfl ?_
          refine L_exit ?_
          refine L_reg [4] (fun K hK => ?_)
          simp
          apply hK; clear hK K
          exact L_ret ⟨.inr rfl, _, rfl, h w H1 hO hE⟩
        | true =>
          have hn1 : ¬ 1 < l.length := fun h => hr ⟨rfl, h⟩
          have e1 : (((i : Int) + 1) == 1) = true := by simp; omega
          refine L_reg [0, 1, 5, 6, 9, 10, 24] (fun K hK => ?_)
          simp [e1, pickV]
          apply hK; clear hK K
          refine L_true rfl ?_
          refine L_exit ?_
          refine L_reg [4] (fun K hK => ?_)
          simp
          apply hK; clear hK K
          exact L_ret ⟨.inr rfl, _, rfl, h w H1 hO hE⟩
    · refine L_false (by simp; omega) ?_
      have h1 : i + 1 < l.length := by omega
      have b2 := sh_g hb h1
      obtain ⟨ry, py, vy, hiy, hldy⟩ := ls_ix hv1 h1
      rw [show ((i + 1 : Nat) : Int) = (i : Int) + 1 by omega] at hiy
      have hd : max (g l i - g l (i + 1)) (g l (i + 1) - g l i) = df (g l i) (g l (i + 1)) := by unfold df; omega
      obtain ⟨v', H2, happ, hO2, hE2⟩ := ownF_append hE el22 el22 (x := .int .i64 (df (g l i) (g l (i + 1)))) (m := 1) hO rfl (by simp; omega)
      refine L_regT mixed [0, 1, 5, 9, 10] (by kernel_rfl) (fun K hK => ?_)
      simp [hix, hld, hiy, hldy, wrap_i64 (a := g l i - g l (i + 1)) (by omega), wrap_i64 (a := g l (i + 1) - g l i) (by omega), hd, happ]
      apply hK; clear hK K
      refine L_reg [0, 1, 5, 9, 10] (fun K hK => ?_)
      simp [wrap_i64 (a := (i : Int) + 1) (by omega)]
      apply hK; clear hK K
      refine ⟨l.length - (i + 1), [v', .int .i64 (i + 1 : Nat)], by omega, by simp, i + 1, v', rfl, by omega, rfl, ?_, hE2⟩
      rw [hstart i h1]
      simpa using hO2
  · have hS : (stepsS r l).take i = stepsS r l := List.take_of_length_le (by omega)
    rw [hS] at hO
    refine L_reg [4] (fun K hK => ?_)
    simp
    apply hK; clear hK K
    exact L_ret ⟨.inr rfl, _, rfl, h w H1 hO hE⟩
theorem mx_take {l : List Int} {i : Nat} {a : Int} (hi : i < l.length) : (l.take (i + 1)).foldl max a = max ((l.take i).foldl max a) (g l i) := by
  rw [List.take_add_one, List.getElem?_eq_getElem hi, Option.toList_some, List.foldl_append, g_lt hi]
  rfl
theorem Max_ac (v : AV) (l : List Int) (H : AH) (Q : AV → AH → Prop) (h1 : 1 ≤ l.length) (hlen : l.length ≤ 1000000) (hv : Ls H v l) (h : Q (.int .i64 (l.foldl max (g l 0))) H) : AC Try.prog 91 [v] H Q := by
  have hl := ls_len hv
  refine L_body 25 Try.func91 rfl rfl ?_
  refine L_reg [0] (fun K hK => ?_)
  simp
  apply hK; clear hK K
  refine L_reg [0, 7] (fun K hK => ?_)
  simp [hl]
  apply hK; clear hK K
  refine L_false (by simp; omega) ?_
  obtain ⟨rz, pz, vz, hix, hld⟩ := ls_ix hv (i := 0) (by omega)
  have hix0 : ∀ k, aIndexAddr Try.prog 22 v (.int k 0) = some (.ptr rz pz vz) := hix
  refine L_reg [0, 3] (fun K hK => ?_)
  simp [hix0, hld]
  apply hK; clear hK K
  refine L_reg [0, 3, 4] (fun K hK => ?_)
  simp
  apply hK; clear hK K
  have hst : (l.take 1).foldl max (g l 0) = g l 0 := by
    have := mx_take (a := g l 0) (i := 0) (l := l) (by omega)
    rw [this]; simp
  refine L_block (L_loopV [3, 4] (fun n vs H' => ∃ i : Nat, n = l.length - i ∧ 1 ≤ i ∧ i ≤ l.length ∧ vs = [.int .i64 ((l.take i).foldl max (g l 0)), .int .i64 i] ∧ H = H') _ [.int .i64 (g l 0), .int .i64 1] rfl ⟨1, rfl, by omega, by omega, by rw [hst]; rfl, rfl⟩ ?_)
  rintro n _ _ ⟨i, rfl, hi1, hi, rfl, rfl⟩
  refine L_reg [0, 3, 4, 15] (fun K hK => ?_)
  simp [hl]
  apply hK; clear hK K
  refine L_dec (i < l.length) (by simp) (fun hlt => ?_) (fun hge => L_exit ?_)
  · refine L_block ?_
    obtain ⟨ry, py, vy, hiy, hldy⟩ := ls_ix hv hlt
    refine L_reg [0, 3, 4] (fun K hK => ?_)
    simp [hiy, hldy]
    apply hK; clear hK K
    refine L_reg [0, 3, 4] (fun K hK => ?_)
    simp [wrap_i64 (a := (i : Int) + 1) (by omega)]
    apply hK; clear hK K
    exact ⟨l.length - (i + 1), [.int .i64 ((l.take (i + 1)).foldl max (g l 0)), .int .i64 (i + 1 : Nat)], by omega, by simp [mx_take hlt], i + 1, rfl, by omega, by omega, rfl, rfl⟩
  · rw [List.take_of_length_le (by omega)]
    refine L_reg [2] (fun K hK => ?_)
    simp
    apply hK; clear hK K
    exact L_ret ⟨.inr rfl, _, rfl, h⟩
theorem greatestL_ac (v : AV) (l : List Int) (H : AH) (Q : AV → AH → Prop) (hlen : l.length ≤ 1000) (hv : Ls H v l) (h : Q (.int .i64 (gr l)) H) : AC Try.prog 50 [v] H Q := by
  refine AC.quiet (belB_int _ _ _ _) (fun Q h => ?_) Q h
  refine L_body 7 Try.func50 rfl rfl ?_
  refine L_reg [0] (fun K hK => ?_)
  simp
  apply hK; clear hK K
  have hB : Ext H (H ++ [AObj.row [AV.int .i64 0] 0 1 false]) := .push _ _
  have hO : OwnF H.length (H ++ [AObj.row [AV.int .i64 0] 0 1 false]) (.slice (some H.length) 0 1 0 1 false) (([0] : List Int).map (.int .i64)) := .inr ⟨H.length, 0, 1, Nat.le_refl _, rfl, by simp⟩
  obtain ⟨u, H2, p1, p2, p3⟩ := ownF_appendL (P := Try.prog) hB el22 el22 hO (hv.ext hB) (by simp; omega)
  refine L_reg [2] (fun K hK => ?_)
  simp [okFn_low, p1]
  refine Max_ac u ([0] ++ l) _ _ (by simp) (by simp; omega) p2.own.ls ?_
  simp
  apply hK; clear hK K
  have e : l.foldl max (max (g (0 :: l) 0) 0) = gr l := by
    show l.foldl max (max 0 0) = _
    simp [gr]
  rw [e]
  exact L_ret ⟨.inr rfl, _, rfl, h H2 p3⟩
theorem sumL_ac (v : AV) (l : List Int) (H : AH) (Q : AV → AH → Prop) (hlen : l.length ≤ 1000000) (hb : Bd 1000000000 l) (hv : Ls H v l) (h : Q (.int .i64 l.sum) H) : AC Try.prog 53 [v] H Q := by
  have hl := ls_len hv
  refine L_body 17 Try.func53 rfl rfl ?_
  refine L_reg [0] (fun K hK => ?_)
  simp
  apply hK; clear hK K
  refine L_reg [0, 3] (fun K hK => ?_)
  simp
  apply hK; clear hK K
  refine L_reg [3, 6, 7, 8] (fun K hK => ?_)
  simp [hl]
  apply hK; clear hK K
  refine L_block (L_loopV [3, 8] (fun n vs H' => ∃ i : Nat, n = l.length - i ∧ i ≤ l.length ∧ vs = [.int .i64 (l.take i).sum, .int .i64 i] ∧ H = H') _ [.int .i64 0, .int .i64 0] rfl ⟨0, rfl, by omega, rfl, rfl⟩ ?_)
  rintro n _ _ ⟨i, rfl, hi, rfl, rfl⟩
  refine L_reg [3, 6, 7, 8, 9] (fun K hK => ?_)
  simp
  apply hK; clear hK K
  refine L_dec (i < l.length) (by simp) (fun hlt => ?_) (fun hge => L_exit ?_)
  · refine L_block ?_
    obtain ⟨rz, pz, vz, hix, hld⟩ := ls_ix hv hlt
    have hs := sum_small (by decide) (hb.take (i + 1)) (by decide) (by simp; omega)
    rw [sum_take hlt] at hs
    refine L_reg [3, 5, 6, 7, 8] (fun K hK => ?_)
    simp [hix, hld]
    apply hK; clear hK K
    refine L_reg [3, 6, 7, 8] (fun K hK => ?_)
    simp [wrap_i64 (a := (l.take i).sum + g l i) (by omega)]
    apply hK; clear hK K
    refine L_reg [3, 6, 7, 8] (fun K hK => ?_)
    simp [wrap_i64 (a := (i : Int) + 1) (by omega)]
    apply hK; clear hK K
    exact ⟨l.length - (i + 1), [.int .i64 (l.take (i + 1)).sum, .int .i64 (i + 1 : Nat)], by omega, by simp [sum_take hlt], i + 1, rfl, by omega, rfl, rfl⟩
  · rw [List.take_of_length_le (by omega)]
    refine L_reg [2] (fun K hK => ?_)
    simp
    apply hK; clear hK K
    exact L_ret ⟨.inr rfl, _, rfl, h⟩
end Go.Proofs.Ytpfkioakjmpimaa

/- What an index proves no arrangement avoids. -/
namespace Go.Proofs.Ytpfkioakjmpimaa
open Go Go.Proofs.Ytpfkioakjmpimaa.AX

theorem rs_le {r : Bool} {l o : List Int} (ho : o.Perm l) {i : Nat} (hi : i < (rsS r l).length) : g (rsS r l) i ≤ stepC r o := by
  have hl := rsS_len r l
  rw [g_rs (by omega)]
  have hsl := srt_len l
  have := lower (r := r) (srt_sorted l) (srt_perm l) ho (i := i) (by rw [hsl]; omega)
  rw [hsl] at this
  exact this
theorem gr_rs_le {r : Bool} {l o : List Int} (ho : o.Perm l) : gr (rsS r l) ≤ stepC r o := gr_le (gr_nn _) fun x hx => by
  obtain ⟨i, hi, rfl⟩ := memg hx
  exact rs_le ho hi
theorem prov_no {r : Bool} {l o : List Int} (h0 : shE l = 0) (ho : o.Perm l) (i : Int) : provE l r i (stepC r o + 1) = 14 ∨ provE l r i (stepC r o + 1) = 1 := by
  unfold provE
  rw [if_pos h0]
  split
  · rename_i hc
    have := rs_le (r := r) ho (i := i.toNat) (by omega)
    rw [if_pos (by omega)]
    exact .inl rfl
  · exact .inr rfl
theorem prov_zero {r : Bool} {l : List Int} (h0 : shE l = 0) (h1 : 1 ≤ l.length) {i : Nat} : provE l r i 0 = if i + reachS l.length r < l.length then 0 else 1 := by
  unfold provE
  rw [if_pos h0]
  have hl := rsS_len r l
  obtain ⟨r1, r2⟩ := reach_le h1 r
  by_cases hc : i + reachS l.length r < l.length
  · rw [if_pos hc, if_pos (by omega), if_neg]
    have := rs_nn r l h1 _ (gmem (l := rsS r l) (i := i) (by omega))
    simp only [Int.toNat_natCast]; omega
  · rw [if_neg hc, if_neg (by omega)]
theorem prov_eq {r : Bool} {l : List Int} (h0 : shE l = 0) (h2 : 2 ≤ l.length) {i : Nat} : (provE l r i 0 == 0) = (decide (i + 1 < l.length) && (!r || decide (l.length = 2) || decide (i + 2 < l.length))) := by
  rw [prov_zero h0 (by omega)]
  unfold reachS
  cases r with
  | false => by_cases c1 : i + 1 < l.length <;> simp [c1]
  | true =>
    by_cases c2 : l.length = 2
    · by_cases c1 : i + 1 < 2 <;> simp [c2, c1]
    · have c3 : 2 < l.length := by omega
      by_cases c4 : i + 2 < l.length
      · have c1 : i + 1 < l.length := by omega
        simp [c1, c2, c3, c4]
      · simp [c2, c3, c4]
set_option maxHeartbeats 2000000 in
set_option maxRecDepth 100000 in
theorem shadeProved_ac (ws by' : List Int) (hw : By 8 ws) (hby : By 7 by') (r : Bool) (at' : Int) (hat : 0 ≤ at' ∧ at' < 256) (H : AH) : AC Try.prog 8 [.agg (ws.map (.int .u8)), .bool r, .int .u8 at', .agg (by'.map (.int .u8))] H fun u _ => u = .bool true := by
  refine L_body 162 Try.func8 rfl rfl ?_
  refine L_reg [1, 2, 4, 7] (fun K hK => ?_)
  simp [AV.isU, acells]
  apply hK; clear hK K
  have r0 : (H ++ [AObj.row (ws.map (AV.int .u8)) 0 0 false, AObj.row (by'.map (AV.int .u8)) 0 0 false])[H.length]? = some (.row (ws.map (.int .u8)) 0 0 false) := by simp
  have r1 : (H ++ [AObj.row (ws.map (AV.int .u8)) 0 0 false, AObj.row (by'.map (AV.int .u8)) 0 0 false])[H.length + 1]? = some (.row (by'.map (.int .u8)) 0 0 false) := by simp
  generalize H ++ [AObj.row (ws.map (AV.int .u8)) 0 0 false, AObj.row (by'.map (AV.int .u8)) 0 0 false] = H1 at r0 r1 ⊢
  generalize H.length = p at r0 r1 ⊢
  have hld8 : ldn H1 p 0 8 0 = some (ws.map (.int .u8)) := by
    rw [ldn_row r0, List.drop_zero]
    have := takeKnown_one (vs := ws.map (AV.int .u8)) (by rw [List.all_eq_true]; intro x hx; obtain ⟨i, -, rfl⟩ := List.mem_map.1 hx; rfl)
    rw [List.length_map, hw.1] at this
    exact this
  refine L_reg [1, 2, 7, 9] (fun K hK => ?_)
  simp [okFn_low, hld8]
  refine made_ac ws 7 hw (by decide) (by decide) H1 _ (fun v H2 hO hE => ?_)
  simp
  apply hK; clear hK K
  have h0 := trayS_ok hw (by decide : 0 < 7) (by decide)
  obtain ⟨b1, b2, b3⟩ := Bd.ok h0
  generalize trayS ws 7 = l at *
  have hv := hO.own.ls
  refine L_reg [1, 2, 7, 9, 10] (fun K hK => ?_)
  simp [okFn_low]
  refine Clone_ac v l H2 _ (by omega) hv (fun w H3 hO3 hE3 => ?_)
  simp
  apply hK; clear hK K
  have hE13 := hE.trans hE3
  have r1 := hE13.row r1
  have hv3 := hv.ext hE3
  have hpl : ∀ j, rowOf v = some j → j < H2.length := fun j hj => (ownF_rowlt hO hj).2
  have hplen : p + 1 < H3.length := (List.getElem?_eq_some_iff.1 r1).1
  have hp2 : p + 1 < H2.length := by
    have := hE.1
    have h5 := (List.getElem?_eq_some_iff.1 (show H1[p + 1]? = _ from by assumption)).1
    omega
  rcases hO3 with ⟨g1, -⟩ | ⟨ra, va, sa, g1, rfl, g3⟩
  · have : l = [] := by simpa using g1
    subst this; simp at b1
  rw [List.length_map]
  have hA : Rw ra va H3 l := ⟨sa, g3⟩
  have hl := ls_len hA.ls
  refine L_reg [1, 2, 7, 9, 10, 26, 27] (fun K hK => ?_)
  simp
  apply hK; clear hK K
  refine L_block (L_loopV [27] (fun n vs H' => ∃ (i : Nat) (o : List Int), n = l.length - i ∧ i ≤ l.length ∧ o.Perm l ∧ vs = [.int .i64 i] ∧ Rw ra va H' o ∧ KeepX ra H3 H') _ [.int .i64 0] rfl ⟨0, l, rfl, by omega, .refl _, rfl, hA, .refl _ _⟩ ?_)
  rintro n _ H4 ⟨i, o, rfl, hi, ho, rfl, hB, hK⟩
  have hol := ho.length_eq
  refine L_reg [1, 2, 7, 9, 10, 26, 27, 28] (fun K hK => ?_)
  simp
  apply hK; clear hK K
  refine L_dec (i < l.length) (by simp) (fun hlt => ?_) (fun hge => L_exit ?_)
  · refine L_block ?_
    have r4 := hK.row (by omega) r1
    have hldb := ld_by r4 (i := i) (by rw [hby.1]; omega)
    have bb := hby.g (i := i) (by omega)
    generalize g by' i = x at *
    have hne : ((i : Int) + 1) ≠ 0 := by omega
    have hrem : x.tmod ((i : Int) + 1) = ((x.toNat % (i + 1) : Nat) : Int) := by
      have := rem_int bb.1 (i + 1)
      rw [show ((i + 1 : Nat) : Int) = (i : Int) + 1 by omega] at this
      exact this
    have hk : x.toNat % (i + 1) < i + 1 := Nat.mod_lt _ (by omega)
    have hi7 : (i : Int) < 7 := by omega
    refine L_reg [1, 2, 7, 9, 10, 11, 26, 27] (fun K hK => ?_)
    simp
    apply hK; clear hK K
    refine L_reg [1, 2, 7, 9, 10, 11, 12, 26, 27] (fun K hK => ?_)
    simp [hldb, hi7, wrap_i64 (a := x) (by omega), wrap_i64 (a := (i : Int) + 1) (by omega), hne, hrem, -Int.natCast_emod]
    apply hK; clear hK K
    generalize x.toNat % (i + 1) = k at *
    obtain ⟨H5, H6, e1, e2, e3, e4⟩ := hB.swap (i := i) (j := k) (by omega) (by omega)
    have hx := hB.ld (i := i) (by omega)
    have hy := hB.ld (i := k) (by omega)
    have hkl : k < l.length := by omega
    refine L_regT mixed [1, 2, 7, 9, 10, 26, 27] (by kernel_rfl) (fun K hK => ?_)
    simp [hlt, hkl, hx, hy, e1, e2]
    apply hK; clear hK K
    refine L_reg [1, 2, 7, 9, 10, 26, 27] (fun K hK => ?_)
    simp [wrap_i64 (a := (i : Int) + 1) (by omega)]
    apply hK; clear hK K
    exact ⟨l.length - (i + 1), [.int .i64 (i + 1 : Nat)], by omega, by simp, i + 1, _, rfl, by omega, (sw_perm (by omega) (by omega)).trans ho, rfl, e3, hK.trans e4⟩
  · have hE4 : Ext H2 H4 := hK.new hE3 (by omega)
    have hv4 := hv.ext hE4
    have hvl := ls_len hv4
    have ho4 := hB.ls
    rw [hol] at ho4
    have hbo := b3.perm ho
    have h0o : shE o = 0 := shE_all (by omega) (by omega) fun j hj => (shE_ok h0).2.2 _ (ho.mem_iff.1 (gmem hj))
    refine L_reg [1, 2, 9, 10, 13, 14] (fun K hK => ?_)
    simp [okFn_low]
    refine Step_ac _ o r _ _ (by omega) ho4 ?_
    simp
    apply hK; clear hK K
    refine L_reg [1, 2, 9, 10, 13, 14, 15, 16] (fun K hK => ?_)
    simp [okFn_low]
    refine Sum_ac _ o r _ _ (by omega) ho4 ?_
    simp
    apply hK; clear hK K
    rw [h0o]
    simp only [if_true]
    have hsl := stepsS_len r o
    have hbd := df_bd hbo (r := r)
    refine L_reg [1, 2, 9, 13, 85] (fun K hK => ?_)
    simp [okFn_low, pickV]
    refine stepsL_ac _ o r _ _ (by omega) hbo ho4 (fun u1 H5 hu1 hE5 => ?_)
    simp [okFn_low]
    refine greatestL_ac u1 _ _ _ (by omega) hu1.own.ls ?_
    have e1 : gr (stepsS r o) = stepC r o := rfl
    simp [okFn_low, pickV, e1]
    refine stepsL_ac _ o r _ _ (by omega) hbo (ho4.ext hE5) (fun u2 H6 hu2 hE6 => ?_)
    simp [okFn_low]
    refine sumL_ac u2 _ _ _ (by omega) (fun x hx => by have := hbd x hx; omega) hu2.own.ls ?_
    have e2 : (stepsS r o).sum = sumC r o := rfl
    simp [pickV, e2]
    apply hK; clear hK K
    refine L_false rfl ?_
    have hv6 := hv4.ext (hE5.trans hE6)
    have hvl := ls_len hv6
    have hsc : -1 ≤ stepC r o ∧ stepC r o ≤ 2000 := ⟨by have := gr_nn (stepsS r o); unfold stepC; omega, gr_le (by omega) fun x hx => (hbd x hx).2⟩
    refine L_reg [1, 2, 9, 13, 17] (fun K hK => ?_)
    simp
    apply hK; clear hK K
    refine L_block (L_loopV [17] (fun n vs H' => ∃ k : Nat, n = l.length + 2 - k ∧ k ≤ l.length + 2 ∧ vs = [.int .i64 ((k : Int) - 1)] ∧ H6 = H') _ [.int .i64 (-1)] rfl ⟨0, rfl, by omega, rfl, rfl⟩ ?_)
    rintro n _ _ ⟨k, rfl, hk, rfl, rfl⟩
    refine L_reg [1, 2, 9, 13, 17, 89] (fun K hK => ?_)
    simp [hvl]
    apply hK; clear hK K
    refine L_dec ((k : Int) - 1 ≤ l.length) rfl (fun hlt => ?_) (fun hge => L_exit ?_)
    · refine L_block ?_
      refine L_reg [1, 2, 9, 13, 17, 18] (fun K hK => ?_)
      simp [okFn_low, wrap_i64 (a := stepC r o + 1) (by omega)]
      refine Proves_ac v l r _ _ _ _ (by omega) hv6 ?_
      simp
      apply hK; clear hK K
      rcases prov_no (r := r) h0 ho ((k : Int) - 1) with e | e
      · refine L_reg [1, 2, 9, 13, 17, 107] (fun K hK => ?_)
        simp [e, pickV]
        apply hK; clear hK K
        refine L_false rfl ?_
        refine L_reg [1, 2, 9, 13, 17] (fun K hK => ?_)
        simp [show (k : Int) - 1 + 1 = k by omega, wrap_i64 (a := (k : Int)) (by omega)]
        apply hK; clear hK K
        exact ⟨l.length + 2 - (k + 1), [.int .i64 (k : Int)], by omega, by simp, k + 1, rfl, by omega, by simp, rfl⟩
      · refine L_reg [1, 2, 9, 13, 17, 107] (fun K hK => ?_)
        simp [e, pickV]
        apply hK; clear hK K
        refine L_false rfl ?_
        refine L_reg [1, 2, 9, 13, 17] (fun K hK => ?_)
        simp [show (k : Int) - 1 + 1 = k by omega, wrap_i64 (a := (k : Int)) (by omega)]
        apply hK; clear hK K
        exact ⟨l.length + 2 - (k + 1), [.int .i64 (k : Int)], by omega, by simp, k + 1, rfl, by omega, by simp, rfl⟩
    · refine L_reg [1, 2, 9, 13, 110] (fun K hK => ?_)
      simp [hvl]
      apply hK; clear hK K
      refine L_dec ((l.length : Int) < 2) rfl (fun h2 => ?_) (fun h2 => ?_)
      · refine L_reg [8] (fun K hK => ?_)
        simp [okFn_low]
        refine works_ac _ _ ?_
        simp
        apply hK; clear hK K
        exact L_ret ⟨.inr rfl, _, rfl, rfl⟩
      · have hrem := rem_int hat.1 l.length
        have hne : l.length ≠ 0 := by omega
        have hlt7 : at'.toNat % l.length < l.length := Nat.mod_lt _ (by omega)
        refine L_reg [1, 9, 13, 19] (fun K hK => ?_)
        simp [hvl, wrap_i64 (a := at') (by omega), hne, hrem, -Int.natCast_emod]
        apply hK; clear hK K
        generalize at'.toNat % l.length = i at *
        refine L_reg [1, 9, 13, 14, 19, 20] (fun K hK => ?_)
        simp [okFn_low]
        refine Least_ac v l r _ _ (by omega) hv6 ?_
        simp
        apply hK; clear hK K
        rw [h0]
        simp only [if_true]
        have hle := gr_rs_le (r := r) ho
        have hpe := prov_eq (r := r) h0 (by omega) (i := i)
        have hneg : ((l.length : Int) == 2) = decide (l.length = 2) := by
          by_cases c : l.length = 2
          · simp [c]
          · have : ¬ ((l.length : Int) = 2) := by omega
            simp [c, this]
        refine L_reg [8] (fun K hK => ?_)
        simp [okFn_low, pickV, hle]
        refine Proves_ac v l r i 0 _ _ (by omega) hv6 ?_
        generalize provE l r i 0 = x at *
        have w1 := wrap_i64 (a := (i : Int) + 1) (by omega)
        have w2 := wrap_i64 (a := (i : Int) + 2) (by omega)
        have hb4 := fun (x y : Bool) (lit : Bool) => b_eqlB (P := Try.prog) (l := lit) Try.underlying4 x y
        by_cases c1 : (i : Int) + 1 < l.length
        · have c1d : decide ((i : Int) + 1 < l.length) = true := by simpa using c1
          cases r with
          | false =>
            have hx : (x == 0) = true := by rw [hpe]; simp; omega
            simp (maxSteps := 3000000) [okFn_low, pickV, hvl, c1d, hx, hb4, w1]
            refine works_ac _ _ ?_
            simp [pickV]
            apply hK; clear hK K
            exact L_ret ⟨.inr rfl, _, rfl, rfl⟩
          | true =>
            by_cases c2 : (l.length : Int) = 2
            · have hx : (x == 0) = true := by rw [hpe]; simp; omega
              have c2b : ((l.length : Int) == 2) = true := by simpa using c2
              simp (maxSteps := 3000000) [okFn_low, pickV, hvl, c1d, hx, hb4, w1, c2b]
              refine works_ac _ _ ?_
              simp [pickV]
              apply hK; clear hK K
              exact L_ret ⟨.inr rfl, _, rfl, rfl⟩
            · have c2b : ((l.length : Int) == 2) = false := by simpa using c2
              by_cases c3 : (i : Int) + 2 < l.length
              · have c3d : decide ((i : Int) + 2 < l.length) = true := by simpa using c3
                have hx : (x == 0) = true := by rw [hpe]; simp; omega
                simp (maxSteps := 3000000) [okFn_low, pickV, hvl, c1d, hx, hb4, w1, w2, c2b, c3d]
                refine works_ac _ _ ?_
                simp [pickV]
                apply hK; clear hK K
                exact L_ret ⟨.inr rfl, _, rfl, rfl⟩
              · have c3d : decide ((i : Int) + 2 < l.length) = false := by simpa using c3
                have hx : (x == 0) = false := by rw [hpe]; simp; omega
                simp (maxSteps := 3000000) [okFn_low, pickV, hvl, c1d, hx, hb4, w1, w2, c2b, c3d]
                refine works_ac _ _ ?_
                simp [pickV]
                apply hK; clear hK K
                exact L_ret ⟨.inr rfl, _, rfl, rfl⟩
        · have c1d : decide ((i : Int) + 1 < l.length) = false := by simpa using c1
          have hx : (x == 0) = false := by rw [hpe]; simp; omega
          simp (maxSteps := 3000000) [okFn_low, pickV, hvl, c1d, hx, hb4, w1, w2]
          refine works_ac _ _ ?_
          simp [pickV]
          apply hK; clear hK K
          exact L_ret ⟨.inr rfl, _, rfl, rfl⟩
end Go.Proofs.Ytpfkioakjmpimaa

/- Turned round, exchanged, begun elsewhere: the mathematics; and Clone, Reverse. -/
namespace Go.Proofs.Ytpfkioakjmpimaa
open Go Go.Proofs.Ytpfkioakjmpimaa.AX
set_option linter.unusedVariables false
theorem Clone_ex (v : AV) (l : List Int) (H : AH) (hlen : l.length ≤ 1000000) (hv : Ls H v l) : ∃ v' H', OwnF H.length H' v' (l.map (.int .i64)) ∧ Ext H H' ∧ ∀ Q : AV → AH → Prop, Q v' H' → AC Try.prog 52 [v] H Q := by
  obtain ⟨r0, off0, ver0, sz0, full0, hv0, hld⟩ := id hv
  cases r0 with
  | none =>
    have hl0 : l = [] := by
      cases l with
      | nil => rfl
      | cons a l => obtain ⟨r', e, -⟩ := hld 0 (by simp); cases e
    subst hl0
    refine ⟨_, _, .nil _ _, .refl _, fun Q h => ?_⟩
    refine L_body 8 Try.func52 rfl rfl ?_
    refine L_reg [0] (fun K hK => ?_)
    simp
    apply hK; clear hK K
    refine L_reg [0, 4] (fun K hK => ?_)
    simp [hv0, eq_nil]
    apply hK; clear hK K
    refine L_true rfl ?_
    refine L_reg [2] (fun K hK => ?_)
    simp
    apply hK; clear hK K
    exact L_ret ⟨.inr rfl, _, rfl, h⟩
  | some r0 =>
    obtain ⟨v', H', happ, hO, hE⟩ := copy_append (P := Try.prog) el22 el22 hv (by omega)
    refine ⟨v', H', hO, hE, fun Q h => ?_⟩
    rw [hv0] at happ
    refine L_body 8 Try.func52 rfl rfl ?_
    refine L_reg [0] (fun K hK => ?_)
    simp
    apply hK; clear hK K
    refine L_reg [0, 4] (fun K hK => ?_)
    simp [hv0, eq_nil]
    apply hK; clear hK K
    refine L_false rfl ?_
    refine L_reg [2] (fun K hK => ?_)
    simp [happ]
    apply hK; clear hK K
    exact L_ret ⟨.inr rfl, _, rfl, h⟩
/-- What Reverse does to a list that is its own. -/
theorem ReverseA_ac (r ver : Nat) (l : List Int) (H : AH) (Q : AV → AH → Prop) (hlen : l.length ≤ 1000000) (hr : Rw r ver H l) (h : ∀ H', Rw r ver H' l.reverse → KeepX r H H' → Q (.tuple []) H') : AC Try.prog 56 [.slice (some r) 0 l.length ver 1 false] H Q :=
  Reverse_ac false r 0 l.length ver l H Q hr hlen (by omega) fun H' d h1 h2 h3 h4 => by
    have : d = l.reverse := g_ext (by simpa using h1) fun i hi => by
      rw [h2 i (by omega), if_pos (by omega), g_rev (by omega)]; congr 1; omega
    subst this
    exact h H' h3 h4
/-- The list with a cell of a rotated one. -/
theorem g_rot {c : List Int} {k : Nat} (hk : k ≤ c.length) {i : Nat} (hi : i < c.length) : g (c.drop k ++ c.take k) i = if i < c.length - k then g c (k + i) else g c (i - (c.length - k)) := by
  unfold g
  simp only [List.getD_eq_getElem?_getD]
  by_cases h : i < c.length - k
  · rw [if_pos h, List.getElem?_append_left (by simpa using h), List.getElem?_drop]
  · rw [if_neg h, List.getElem?_append_right (by simp; omega), List.getElem?_take, List.length_drop, if_pos (by omega)]
theorem steps_len {r : Bool} {l : List Int} : (stepsS r l).length = (l.length - 1) + if r = true ∧ 1 < l.length then 1 else 0 := by
  unfold stepsS
  split <;> simp [stp]
theorem g_app1 {a b : List Int} {i : Nat} (h : i < a.length) : g (a ++ b) i = g a i := by simp [g, List.getD_eq_getElem?_getD, List.getElem?_append_left h]
theorem g_app2 {a b : List Int} {i : Nat} (h : a.length ≤ i) : g (a ++ b) i = g b (i - a.length) := by simp [g, List.getD_eq_getElem?_getD, List.getElem?_append_right h]
theorem g_stp {l : List Int} {i : Nat} (h : i + 1 < l.length) : g (stp l) i = df (g l i) (g l (i + 1)) := by
  rw [g_lt (by simp [stp]; omega)]; simp [stp]
theorem g_cyc {l : List Int} (h2 : 2 ≤ l.length) {i : Nat} (hi : i < l.length) : g (stepsS true l) i = df (g l i) (g l (if i + 1 = l.length then 0 else i + 1)) := by
  unfold stepsS
  rw [if_pos ⟨rfl, by omega⟩]
  by_cases h : i + 1 = l.length
  · rw [g_app2 (by rw [stp_len]; omega), stp_len, if_pos h, show i - (l.length - 1) = 0 by omega, show l.length - 1 = i by omega]; rfl
  · rw [g_app1 (by rw [stp_len]; omega), if_neg h, g_stp (by omega)]
theorem rot_len {c : List Int} {k : Nat} (hk : k ≤ c.length) : (c.drop k ++ c.take k).length = c.length := by simp; omega
theorem steps_rot {l : List Int} {k : Nat} (hk : k < l.length) : (stepsS true (l.drop k ++ l.take k)).Perm (stepsS true l) := by
  by_cases h2 : 2 ≤ l.length
  · have hr := rot_len (c := l) (k := k) (by omega)
    have hs : (stepsS true l).length = l.length := by rw [steps_len, if_pos ⟨rfl, by omega⟩]; omega
    have e : stepsS true (l.drop k ++ l.take k) = (stepsS true l).drop k ++ (stepsS true l).take k := by
      refine g_ext ?_ fun i hi => ?_
      · rw [rot_len (by omega), steps_len, if_pos ⟨rfl, by omega⟩, hr, hs]; omega
      · rw [steps_len, if_pos ⟨rfl, by omega⟩, hr] at hi
        rw [g_cyc (by omega) (by omega), hr, g_rot (by omega) (by omega : i < (stepsS true l).length), hs]
        rw [g_rot (by omega) (by omega : i < l.length)]
        by_cases c1 : i + 1 = l.length
        · rw [if_pos c1, g_rot (by omega) (by omega : 0 < l.length)]
          rw [if_pos (by omega : 0 < l.length - k)]
          by_cases c2 : i < l.length - k
          · rw [if_pos c2, if_pos c2, g_cyc (by omega) (by omega)]
            rw [if_pos (by omega)]; congr 2; omega
          · rw [if_neg c2, if_neg c2, g_cyc (by omega) (by omega)]
            rw [if_neg (by omega)]; congr 2; omega
        · rw [if_neg c1, g_rot (by omega) (by omega : i + 1 < l.length)]
          by_cases c2 : i + 1 < l.length - k
          · rw [if_pos c2, if_pos (by omega), if_pos (by omega), g_cyc (by omega) (by omega), if_neg (by omega)]
            congr 2
          · rw [if_neg c2]
            by_cases c3 : i < l.length - k
            · rw [if_pos c3, if_pos c3, g_cyc (by omega) (by omega), if_pos (by omega)]; congr 2; omega
            · rw [if_neg c3, if_neg c3, g_cyc (by omega) (by omega), if_neg (by omega)]; congr 2; omega
    rw [e]
    exact List.perm_append_comm.trans (by rw [List.take_append_drop])
  · obtain rfl : k = 0 := by omega
    simp
theorem steps_rev (r : Bool) (l : List Int) : (stepsS r l.reverse).Perm (stepsS r l) := by
  have e : stp l.reverse = (stp l).reverse := g_ext (by simp [stp]) fun i hi => by
    have hi' : i + 1 < l.length := by simp [stp] at hi; omega
    rw [g_stp (by simpa using hi'), g_rev (by omega), g_rev (by omega), g_rev (by rw [stp_len]; omega), stp_len, g_stp (by omega), df_comm]
    congr 2 <;> omega
  unfold stepsS
  rw [e]
  refine List.Perm.append (List.reverse_perm _) ?_
  rw [List.length_reverse]
  split
  · rename_i c
    rw [g_rev (by omega), g_rev (by omega), df_comm, show l.length - 1 - 0 = l.length - 1 by omega, show l.length - 1 - (l.length - 1) = 0 by omega]
  · exact .refl _
/-- What is left to 60. -/
def lt60 (l : List Int) : List Int := l.map fun x => 60 - x
theorem g_lt60 {l : List Int} {i : Nat} (h : i < l.length) : g (lt60 l) i = 60 - g l i := by
  rw [g_lt (by simpa [lt60] using h), g_lt h]; simp [lt60]
theorem df_60 (a b : Int) : df (60 - a) (60 - b) = df a b := by unfold df; omega
theorem steps_60 (r : Bool) (l : List Int) : stepsS r (lt60 l) = stepsS r l := by
  have hl : (lt60 l).length = l.length := by simp [lt60]
  have e : stp (lt60 l) = stp l := g_ext (by simp [stp, hl]) fun i hi => by
    have hi' : i + 1 < l.length := by rw [stp_len, hl] at hi; omega
    rw [g_stp (by omega), g_stp hi', g_lt60 (by omega), g_lt60 (by omega), df_60]
  unfold stepsS
  rw [e, hl]
  split
  · rw [g_lt60 (by omega), g_lt60 (by omega), df_60]
  · rfl
theorem lt60_lt60 (l : List Int) : lt60 (lt60 l) = l := by
  unfold lt60; rw [List.map_map]; conv => rhs; rw [← List.map_id l]
  exact List.map_congr_left fun x _ => by simp; omega
theorem best_60 {c : List Int → Int} (hc : ∀ p, c (lt60 p) = c p) (l : List Int) : c (Arr.bestS c (lt60 l)) = c (Arr.bestS c l) := by
  apply Int.le_antisymm
  · rw [← hc (Arr.bestS c l)]
    exact Arr.best_cost ((Arr.best_is c l).1.map _)
  · rw [← hc (Arr.bestS c (lt60 l))]
    refine Arr.best_cost ?_
    have := (Arr.best_is c (lt60 l)).1.map (fun x => 60 - x)
    have e := lt60_lt60 l
    unfold lt60 at *
    rwa [e] at this
theorem lt60_ok {l : List Int} (h : shE l = 0) : shE (lt60 l) = 0 := by
  obtain ⟨h1, h2, h3⟩ := shE_ok h
  have hl : (lt60 l).length = l.length := by simp [lt60]
  refine shE_all (by omega) (by omega) fun i hi => ?_
  have hi' : i < l.length := by simpa [lt60] using hi
  rw [g_lt60 hi']
  have := h3 _ (gmem hi')
  omega
theorem shE_perm {l m : List Int} (h : m.Perm l) : shE m = shE l := by
  unfold shE
  rw [h.length_eq]
  have : m.all (fun x => decide (0 ≤ x ∧ x ≤ 60)) = l.all (fun x => decide (0 ≤ x ∧ x ≤ 60)) := by
    rw [Bool.eq_iff_iff, List.all_eq_true, List.all_eq_true]
    exact ⟨fun a x hx => a x (h.mem_iff.2 hx), fun a x hx => a x (h.mem_iff.1 hx)⟩
  rw [this]
theorem sum_perm {a b : List Int} (h : a.Perm b) : a.sum = b.sum := by
  induction h with
  | nil => rfl
  | cons x _ ih => simp [ih]
  | swap x y l => simp; omega
  | trans _ _ h1 h2 => omega
theorem gr_perm {a b : List Int} (h : a.Perm b) : gr a = gr b := gr_congr fun x => h.mem_iff
end Go.Proofs.Ytpfkioakjmpimaa

/- A cigar more: the mathematics. -/
namespace Go.Proofs.Ytpfkioakjmpimaa
open Go Go.Proofs.Ytpfkioakjmpimaa.AX
set_option linter.unusedVariables false
theorem stp_snoc {p : List Int} (h : 1 ≤ p.length) (x : Int) : stp (p ++ [x]) = stp p ++ [df (g p (p.length - 1)) x] := by
  refine g_ext (by simp [stp]; omega) fun i hi => ?_
  have hi' : i < p.length := by simp [stp] at hi; exact hi
  rw [g_stp (by simp; omega), g_app1 hi']
  by_cases c : i + 1 < p.length
  · rw [g_app1 c, g_app1 (by rw [stp_len]; omega), g_stp c]
  · rw [g_app2 (by omega), g_app2 (by rw [stp_len]; omega), stp_len, show i + 1 - p.length = 0 by omega, show i - (p.length - 1) = 0 by omega, show p.length - 1 = i by omega]; rfl
theorem df_tri (a b c : Int) : df a c ≤ df a b + df b c := by unfold df; omega
theorem sum_snoc (r : Bool) {p : List Int} (h : 1 ≤ p.length) (x : Int) : sumC r p ≤ sumC r (p ++ [x]) := by
  unfold sumC stepsS
  rw [stp_snoc h]
  have d1 := df_nn (g p (p.length - 1)) x
  have d2 := df_nn x (g p 0)
  have d3 := df_tri (g p (p.length - 1)) x (g p 0)
  rw [List.length_append, show p.length + [x].length - 1 = p.length by simp, g_app2 (Nat.le_refl _), g_app1 (by omega), Nat.sub_self, show g [x] 0 = x from rfl]
  cases r with
  | false => simp; omega
  | true =>
    have c2 : true = true ∧ 1 < p.length + [x].length := ⟨rfl, by simp; omega⟩
    by_cases c : 1 < p.length
    · rw [if_pos (⟨rfl, c⟩ : true = true ∧ 1 < p.length), if_pos c2]
      simp only [List.sum_append, List.sum_cons, List.sum_nil]; omega
    · rw [if_neg (fun h : true = true ∧ 1 < p.length => c h.2), if_pos c2]
      simp only [List.sum_append, List.sum_cons, List.sum_nil]; omega
theorem more_most (r : Bool) {l : List Int} (h : 1 ≤ l.length) (x : Int) : sumC r (wideS r l) ≤ sumC r (wideS r (l ++ [x])) := by
  have hp := wideS_perm r l
  have h1 := sum_snoc r (p := wideS r l) (by rw [hp.length_eq]; exact h) x
  have h2 := Arr.best_cost (c := fun p => -sumC r p) (l := l ++ [x]) (p := wideS r l ++ [x]) (hp.append_right _)
  have h3 : sumC r (wideS r l ++ [x]) ≤ sumC r (wideS r (l ++ [x])) := by
    show _ ≤ sumC r (Arr.bestS (fun p => -sumC r p) (l ++ [x]))
    omega
  omega
/-- The list with a cell twice. -/
def dup (p : List Int) (j : Nat) : List Int := p.take (j + 1) ++ p.drop j
theorem g_dup {p : List Int} {j : Nat} (hj : j < p.length) {i : Nat} (hi : i ≤ p.length) : g (dup p j) i = if i ≤ j then g p i else g p (i - 1) := by
  unfold dup
  by_cases c : i ≤ j
  · rw [if_pos c, g_app1 (by simp; omega)]
    unfold g; simp only [List.getD_eq_getElem?_getD, List.getElem?_take]; rw [if_pos (by omega)]
  · rw [if_neg c, g_app2 (by simp; omega)]
    unfold g; simp only [List.getD_eq_getElem?_getD, List.getElem?_drop, List.length_take]; congr 2; omega
theorem dup_len {p : List Int} {j : Nat} (hj : j < p.length) : (dup p j).length = p.length + 1 := by simp [dup]; omega
theorem dup_perm {p : List Int} {j : Nat} (hj : j < p.length) : (dup p j).Perm (p ++ [g p j]) := by
  have e : p.take (j + 1) = p.take j ++ [g p j] := by rw [List.take_add_one, List.getElem?_eq_getElem hj, ← g_lt hj]; rfl
  unfold dup
  have e2 : p ++ [g p j] = p.take j ++ (p.drop j ++ [g p j]) := by rw [← List.append_assoc, List.take_append_drop]
  rw [e, e2, List.append_assoc]
  exact List.Perm.append_left _ List.perm_append_comm
theorem dup_step (r : Bool) {p : List Int} {j : Nat} (hj : j < p.length) : stepC r (dup p j) ≤ stepC r p := by
  refine gr_le (gr_nn _) fun x hx => ?_
  have hdl := dup_len hj
  have hin : ∀ i, i + 1 < p.length → df (g p i) (g p (i + 1)) ≤ stepC r p := fun i hi => le_gr (List.mem_append_left _ (mem_stp.2 ⟨i, hi, rfl⟩))
  have h0 : 0 ≤ stepC r p := gr_nn _
  unfold stepsS at hx
  rcases List.mem_append.1 hx with hx | hx
  · obtain ⟨i, hi, rfl⟩ := mem_stp.1 hx
    rw [g_dup hj (by omega), g_dup hj (by omega)]
    by_cases c1 : i + 1 ≤ j
    · rw [if_pos (by omega), if_pos c1]; exact hin i (by omega)
    · rw [if_neg c1, Nat.add_sub_cancel]
      by_cases c2 : i ≤ j
      · rw [if_pos c2, df_zero]; exact h0
      · rw [if_neg c2]
        have := hin (i - 1) (by omega)
        rwa [Nat.sub_add_cancel (by omega)] at this
  · split at hx
    · rename_i c
      obtain rfl : x = _ := by simpa using hx
      rw [hdl, Nat.add_sub_cancel, g_dup hj (by omega), g_dup hj (by omega), if_neg (by omega), if_pos (by omega)]
      by_cases c1 : 1 < p.length
      · refine le_gr (List.mem_append_right _ ?_)
        rw [if_pos ⟨c.1, c1⟩]; exact List.mem_singleton.2 rfl
      · rw [show p.length - 1 = 0 by omega, df_zero]; exact h0
    · cases hx
theorem more_least (r : Bool) {l : List Int} {x : Int} (h : x ∈ l) : gr (rsS r (l ++ [x])) ≤ gr (rsS r l) := by
  rw [← least_is, ← least_is]
  have hp := boxS_perm r l
  obtain ⟨j, hj, rfl⟩ := memg (hp.mem_iff.2 h)
  exact Int.le_trans (Arr.best_cost ((dup_perm hj).trans (hp.append_right _))) (dup_step r hj)
theorem shE_snoc {l : List Int} {x : Int} (h : shE l = 0) (hl : l.length ≤ 6) (hx : 0 ≤ x ∧ x ≤ 60) : shE (l ++ [x]) = 0 := by
  obtain ⟨h1, h2, h3⟩ := shE_ok h
  have e : (l ++ [x]).length = l.length + 1 := by simp
  refine shE_all (by omega) (by omega) fun i hi => ?_
  have := gmem hi
  rcases List.mem_append.1 this with h | h
  · exact h3 _ h
  · rw [List.mem_singleton.1 h]; exact hx
end Go.Proofs.Ytpfkioakjmpimaa

/- All arrangements of sorted numbers in ascending order: the mathematics. -/
namespace Go.Proofs.Ytpfkioakjmpimaa
open Go Go.Proofs.Ytpfkioakjmpimaa.AX
set_option linter.unusedVariables false
/-- The first of equal ones that are left. -/
def fst' (s : List Int) (I : List Nat) (i : Nat) : Prop := i ∈ I ∧ ∀ j ∈ I, j < i → g s j ≠ g s i
instance (s : List Int) (I : List Nat) (i : Nat) : Decidable (fst' s I i) := inferInstanceAs (Decidable (_ ∧ _))
/-- The arrangements that begin so, with the numbers left that have these places. -/
def enI (s : List Int) : Nat → List Int → List Nat → List (List Int)
  | 0, b, _ => [b]
  | n + 1, b, I => (List.range s.length).flatMap fun i => if fst' s I i then enI s n (b ++ [g s i]) (I.erase i) else []
theorem first_of {s : List Int} {x : Int} {I : List Nat} (h : x ∈ I.map (g s)) : ∃ i, fst' s I i ∧ g s i = x := by
  obtain ⟨i0, hi0, hx⟩ := List.mem_map.1 h
  induction i0 using Nat.strongRecOn with
  | ind i0 ih =>
    by_cases c : ∃ j ∈ I, j < i0 ∧ g s j = x
    · obtain ⟨j, h1, h2, h3⟩ := c
      exact ih j h2 h1 h3
    · refine ⟨i0, ⟨hi0, fun j hj hlt he => c ⟨j, hj, hlt, by rw [he, hx]⟩⟩, hx⟩
theorem mem_enI (s : List Int) : ∀ (n : Nat) (b : List Int) (I : List Nat) (p : List Int), I.length = n → (∀ i ∈ I, i < s.length) → (p ∈ enI s n b I ↔ ∃ q, q.Perm (I.map (g s)) ∧ p = b ++ q)
  | 0, b, I, p, h, _ => by
    have : I = [] := List.eq_nil_of_length_eq_zero h
    subst this
    simp [enI]
  | n + 1, b, I, p, h, hI => by
    simp only [enI, List.mem_flatMap, List.mem_range]
    have hlen : ∀ i, i ∈ I → (I.erase i).length = n := fun i hi => by rw [List.length_erase_of_mem hi]; omega
    have hsub : ∀ i, ∀ j ∈ I.erase i, j < s.length := fun i j hj => hI j (List.mem_of_mem_erase hj)
    have hperm : ∀ i, i ∈ I → (g s i :: (I.erase i).map (g s)).Perm (I.map (g s)) := fun i hi => ((List.perm_cons_erase hi).map (g s)).symm
    constructor
    · rintro ⟨i, hi, hp⟩
      split at hp
      · rename_i c
        obtain ⟨q, hq, rfl⟩ := (mem_enI s n _ _ p (hlen i c.1) (hsub i)).1 hp
        exact ⟨g s i :: q, (hq.cons _).trans (hperm i c.1), by simp⟩
      · simp at hp
    · rintro ⟨q, hq, rfl⟩
      cases q with
      | nil => have := hq.length_eq; simp at this; omega
      | cons x q =>
        obtain ⟨i, c, rfl⟩ := first_of (hq.subset (List.mem_cons_self ..))
        refine ⟨i, hI i c.1, ?_⟩
        rw [if_pos c]
        refine (mem_enI s n _ _ _ (hlen i c.1) (hsub i)).2 ⟨q, ?_, by simp⟩
        exact (List.perm_cons _).1 (hq.trans (hperm i c.1).symm)
theorem lx_app (b : List Int) {x y : List Int} (h : Arr.lx x y) : Arr.lx (b ++ x) (b ++ y) := by
  induction b with
  | nil => exact h
  | cons a b ih => exact .inr ⟨rfl, ih⟩
theorem enI_sorted {s : List Int} (hs : Asc s) : ∀ (n : Nat) (b : List Int) (I : List Nat), I.length = n → (∀ i ∈ I, i < s.length) → (enI s n b I).Pairwise Arr.lx
  | 0, b, I, _, _ => by simp [enI]
  | n + 1, b, I, h, hI => by
    have hlen : ∀ i, i ∈ I → (I.erase i).length = n := fun i hi => by rw [List.length_erase_of_mem hi]; omega
    have hsub : ∀ i, ∀ j ∈ I.erase i, j < s.length := fun i j hj => hI j (List.mem_of_mem_erase hj)
    simp only [enI]
    rw [List.pairwise_flatMap]
    refine ⟨fun i hi => ?_, ?_⟩
    · split
      · rename_i c; exact enI_sorted hs n _ _ (hlen i c.1) (hsub i)
      · exact .nil
    · refine (List.pairwise_lt_range (n := s.length)).imp_of_mem ?_
      intro i j hi hj hij x hx y hy
      split at hx
      · rename_i ci
        split at hy
        · rename_i cj
          obtain ⟨q, -, rfl⟩ := (mem_enI s n _ _ x (hlen i ci.1) (hsub i)).1 hx
          obtain ⟨q', -, rfl⟩ := (mem_enI s n _ _ y (hlen j cj.1) (hsub j)).1 hy
          rw [List.append_assoc, List.append_assoc]
          refine lx_app b (.inl ?_)
          have h1 := hs i j (by omega) (List.mem_range.1 hj)
          have h2 := cj.2 i ci.1 hij
          omega
        · simp at hy
      · simp at hx
/-- All arrangements of sorted numbers, as the law goes through them. -/
def en (s : List Int) : List (List Int) := enI s s.length [] (List.range s.length)
theorem map_g (s : List Int) : (List.range s.length).map (g s) = s := g_ext (by simp) fun i hi => by
  have : i < s.length := by simpa using hi
  rw [g_lt (by simpa using this)]; simp
theorem mem_en {s p : List Int} : p ∈ en s ↔ p.Perm s := by
  unfold en
  rw [mem_enI s _ _ _ _ (by simp) (fun i hi => List.mem_range.1 hi), map_g]
  simp
theorem en_sorted {s : List Int} (hs : Asc s) : (en s).Pairwise Arr.lx := enI_sorted hs _ _ _ (by simp) (fun i hi => List.mem_range.1 hi)
/-- The first of the cheapest ones, and what it costs, as a visitor finds them. -/
def visit (c : List Int → Int) (st : Int × List Int) (p : List Int) : Int × List Int := if c p < st.1 then (c p, p) else st
theorem visit_fold (c : List Int → Int) : ∀ (L : List (List Int)) (b : List Int), (b :: L).Pairwise Arr.lx → ∃ r, L.foldl (visit c) (c b, b) = (c r, r) ∧ r ∈ b :: L ∧ ∀ p ∈ b :: L, Arr.bet c r p
  | [], b, _ => ⟨b, rfl, by simp, fun p hp => by rw [List.mem_singleton.1 hp]; exact .refl _ _⟩
  | x :: L, b, h => by
    obtain ⟨h1, h2⟩ := List.pairwise_cons.1 h
    obtain ⟨h3, h4⟩ := List.pairwise_cons.1 h2
    have hbx := h1 x (by simp)
    rw [List.foldl_cons]
    unfold visit
    by_cases hc : c x < c b
    · rw [if_pos hc]
      obtain ⟨r, e1, e2, e3⟩ := visit_fold c L x h2
      refine ⟨r, e1, List.mem_cons_of_mem _ e2, fun p hp => ?_⟩
      rcases List.mem_cons.1 hp with rfl | hp
      · exact (e3 x (by simp)).trans (.inl hc)
      · exact e3 p hp
    · rw [if_neg hc]
      obtain ⟨r, e1, e2, e3⟩ := visit_fold c L b (List.pairwise_cons.2 ⟨fun y hy => h1 y (List.mem_cons_of_mem _ hy), h4⟩)
      refine ⟨r, e1, ?_, fun p hp => ?_⟩
      · rcases List.mem_cons.1 e2 with rfl | h
        · simp
        · simp [h]
      · rcases List.mem_cons.1 hp with rfl | hp
        · exact e3 p (by simp)
        · rcases List.mem_cons.1 hp with rfl | hp
          · refine (e3 b (by simp)).trans ?_
            by_cases he : c b = c p
            · exact .inr ⟨he, .inr hbx⟩
            · exact .inl (by omega)
          · exact e3 p (by simp [hp])
theorem en_first {c : List Int → Int} {s : List Int} (hs : Asc s) {M : Int} (hM : ∀ p, p.Perm s → c p < M) {b0 : List Int} : (en s).foldl (visit c) (M, b0) = (c (Arr.bestS c s), Arr.bestS c s) := by
  have hsort := en_sorted hs
  have hmem : ∀ p, p ∈ en s ↔ p.Perm s := fun p => mem_en
  generalize en s = L at *
  cases L with
  | nil => exact absurd ((hmem s).2 (.refl _)) (by simp)
  | cons b L =>
    have hb := (hmem b).1 (by simp)
    rw [List.foldl_cons, show visit c (M, b0) b = (c b, b) by unfold visit; rw [if_pos (hM b hb)]]
    obtain ⟨r, e1, e2, e3⟩ := visit_fold c L b hsort
    have : r = Arr.bestS c s := Arr.IsBest.eq ⟨(hmem r).1 e2, fun p hp => e3 p ((hmem p).2 hp)⟩
    rw [e1, this]
end Go.Proofs.Ytpfkioakjmpimaa

/- The law's own walk through all arrangements: Clip, put, all. -/
namespace Go.Proofs.Ytpfkioakjmpimaa
open Go Go.Proofs.Ytpfkioakjmpimaa.AX
set_option linter.unusedVariables false
/-- All rows but some are as they were. -/
def Kp (W : Nat → Prop) (H H' : AH) : Prop := H.length ≤ H'.length ∧ ∀ j, j < H.length → ¬ W j → H'[j]? = H[j]?
theorem Kp.refl (W : Nat → Prop) (H : AH) : Kp W H H := ⟨Nat.le_refl _, fun _ _ _ => rfl⟩
theorem Kp.trans {W : Nat → Prop} {A B C : AH} (h : Kp W A B) (k : Kp W B C) : Kp W A C := ⟨Nat.le_trans h.1 k.1, fun j h1 h2 => by rw [k.2 j (by have := h.1; omega) h2, h.2 j h1 h2]⟩
theorem Kp.of {W : Nat → Prop} {A B : AH} (h : Ext A B) : Kp W A B := ⟨h.1, fun j h1 _ => h.2 j h1⟩
theorem Kp.row {W : Nat → Prop} {A B : AH} (h : Kp W A B) {j : Nat} (hj : ¬ W j) {o : AObj} (ho : A[j]? = some o) : B[j]? = some o := by
  rw [h.2 j (List.getElem?_eq_some_iff.1 ho).1 hj, ho]
theorem Kp.ls {W : Nat → Prop} {A B : AH} (h : Kp W A B) {v : AV} {l : List Int} (hv : Ls A v l) (hr : ∀ j, rowOf v = some j → ¬ W j) : Ls B v l := ls_keep hv fun j h1 h2 => h.2 j h1 (hr j h2)
/-- A visitor: what it keeps of the arrangements that it has seen. -/
structure Vis {σ : Type} (s : List Int) (W : Nat → Prop) (N : Nat) (fE : FuncId) (caps : List AV) (S : σ → AH → Prop) (vis : σ → List Int → σ) : Prop where
  ok : okFn Try.prog fE = true
  lt : ∀ j, W j → j < N
  ext : ∀ st H H', S st H → Ext H H' → S st H'
  step : ∀ st v l H (Q : AV → AH → Prop), N ≤ H.length → S st H → Ls H v l → (∀ j, rowOf v = some j → ¬ W j) → l.Perm s → (∀ H', S (vis st l) H' → Kp W H H' → Q (.tuple []) H') → AC Try.prog fE (v :: caps) H Q
theorem slice_clip {P : Program} {t : TypeId} {n : Nat} (h : slSz P t = some n) (r : Option Nat) (off len ver : Nat) (full : Bool) : aSlice P t (.slice r off len ver n full) none (some (.int .i64 (len : Int))) (some (.int .i64 (len : Int))) = some (clipOf r off len ver n) := by
  unfold slSz at h
  unfold aSlice
  split at h
  · rename_i e he
    rw [he]
    cases hi : P.info? e with
    | none => rw [hi] at h; cases h
    | some ie =>
      rw [hi] at h
      obtain rfl : ie.size = n := by simpa using h
      simp [hi, aBounds, aBound]
  · cases h
theorem clip_app {H : AH} {v : AV} {l : List Int} (h : Ls H v l) (hnil : l = [] → v = .slice none 0 0 0 1 false) (hl : l.length ≤ 100) : ∃ u, aSlice Try.prog 22 v none (some (.int .i64 (l.length : Int))) (some (.int .i64 (l.length : Int))) = some u ∧
    ∀ H1 p x, Ext H H1 → aSrc Try.prog H1 22 1 p = some (1, [x]) → x.one = true → aAppend Try.prog H1 22 22 u p = some (.slice (some H1.length) 0 (l.length + 1) 0 1 false, H1 ++ [.row (l.map (.int .i64) ++ [x]) 0 0 false]) := by
  obtain ⟨e, I, h1, h2, h3, h4, -⟩ := elT_some el22
  by_cases c : l = []
  · obtain rfl := hnil c
    subst c
    refine ⟨_, slice_clip slz22 .., fun H1 p x hE hs hx => ?_⟩
    simp [aAppend, clipOf, h1, h2, h3, h4, hs, hx]
  · obtain ⟨r, off, ver, sz, full, rfl, hld⟩ := h
    obtain ⟨r', rfl, rfl, -⟩ := hld 0 (List.length_pos_iff.2 c)
    refine ⟨_, slice_clip slz22 .., fun H1 p x hE hs hx => ?_⟩
    have hn : ldn H1 r' ver l.length off = some (l.map (.int .i64)) := ldn_ints fun i hi => by
      obtain ⟨r2, e2, -, e3⟩ := hld i hi
      obtain rfl := Option.some.inj e2
      exact hE.ld e3
    simp [aAppend, clipOf, h1, h2, h3, h4, hs, hx, hn]
    omega
theorem Clip_ac (v u : AV) (l : List Int) (H : AH) (Q : AV → AH → Prop) (hv : Ls H v l) (hu : aSlice Try.prog 22 v none (some (.int .i64 (l.length : Int))) (some (.int .i64 (l.length : Int))) = some u) (h : Q u H) : AC Try.prog 90 [v] H Q := by
  have hl := ls_len hv
  refine L_body 9 Try.func90 rfl rfl ?_
  refine L_reg [0] (fun K hK => ?_)
  simp
  apply hK; clear hK K
  refine L_reg [2] (fun K hK => ?_)
  simp [hl, hu]
  apply hK; clear hK K
  exact L_ret ⟨.inr rfl, _, rfl, h⟩
theorem bitF : ∀ u : Nat, u < 128 → ∀ i : Nat, i < 8 → IntKind.u64.wrap ((((u : Int).fdiv (2 ^ min i IntKind.u64.bits) % 2 ^ IntKind.u64.bits).toNat &&& 1 % 2 ^ IntKind.u64.bits : Nat) : Int) = if u.testBit i then 1 else 0 := by decide +kernel
theorem bitO : ∀ u : Nat, u < 128 → ∀ i : Nat, i < 8 → IntKind.u64.wrap ((u % 2 ^ IntKind.u64.bits ||| (IntKind.u64.wrap (2 ^ min i IntKind.u64.bits) % 2 ^ IntKind.u64.bits).toNat : Nat) : Int) = ((u ||| 2 ^ i : Nat) : Int) := by decide +kernel
structure PA (ps pe pp : Nat) (sv E : AV) (H : AH) : Prop where
  s : ∃ m, H[ps]? = some (.row [sv] 0 m false)
  e : ∃ m, H[pe]? = some (.row [E] 0 m false)
  p : ∃ m, H[pp]? = some (.row [.func (.func 89) [] [.ptr ps 0 0, .ptr pe 0 0, .ptr pp 0 0]] 0 m false)
theorem PA.kp {ps pe pp : Nat} {sv E : AV} {W : Nat → Prop} {A B : AH} (h : PA ps pe pp sv E A) (k : Kp W A B) (h1 : ¬ W ps) (h2 : ¬ W pe) (h3 : ¬ W pp) : PA ps pe pp sv E B := by
  obtain ⟨⟨m, a⟩, ⟨n, b⟩, ⟨o, c⟩⟩ := h
  exact ⟨⟨m, k.row h1 a⟩, ⟨n, k.row h2 b⟩, ⟨o, k.row h3 c⟩⟩
set_option maxRecDepth 100000 in
set_option maxHeartbeats 1000000 in
theorem put_ac {σ : Type} {s : List Int} {W : Nat → Prop} {N : Nat} {fE : FuncId} {caps : List AV} {S : σ → AH → Prop} {vis : σ → List Int → σ} (hV : Vis s W N fE caps S vis) (hs : Asc s) (hn : ∀ x ∈ s, 0 ≤ x ∧ x ≤ 1000) (h7 : s.length ≤ 7)
    (ps pe pp : Nat) (sv : AV) (w1 : ¬ W ps) (w2 : ¬ W pe) (w3 : ¬ W pp) (hsv : ∀ j, rowOf sv = some j → ¬ W j) :
    ∀ (d : Nat) (b : List Int) (I : List Nat) (u : Nat) (v : AV) (st : σ) (H : AH) (Q : AV → AH → Prop), I.length = d → b.length + d = s.length → (∀ i ∈ I, i < s.length) → I.Nodup → (∀ i, i < s.length → u.testBit i = decide (i ∉ I)) → u < 128 → (b ++ I.map (g s)).Perm s →
      Ls H v b → (b = [] → v = .slice none 0 0 0 1 false) → (∀ j, rowOf v = some j → ¬ W j) → N ≤ H.length → Ls H sv s → PA ps pe pp sv (.func (.func fE) [] caps) H → S st H → (∀ H', S ((enI s d b I).foldl vis st) H' → Kp W H H' → Q (.tuple []) H') → AC Try.prog 89 [v, .int .u64 u, .ptr ps 0 0, .ptr pe 0 0, .ptr pp 0 0] H Q := by
  intro d
  induction d with
  | zero =>
    intro b I u v st H Q hI hb hIl hnd hbit hu hp hv hnl hrv hN hsl hP hS h
    obtain rfl : I = [] := List.eq_nil_of_length_eq_zero hI
    obtain ⟨⟨m1, r1⟩, ⟨m2, r2⟩, ⟨m3, r3⟩⟩ := id hP
    have osv : sv.one = true := by obtain ⟨_, _, _, _, _, rfl, -⟩ := hsl; rfl
    have l1 : ld H ps 0 0 = some sv := by rw [ld_row r1]; exact known_one osv
    have l2 : ld H pe 0 0 = some (.func (.func fE) [] caps) := by rw [ld_row r2]; rfl
    have hvl := ls_len hv
    have hsvl := ls_len hsl
    have hok := hV.ok
    refine L_body 48 Try.func89 rfl rfl ?_
    refine L_reg [0, 1, 2, 3, 4, 14] (fun K hK => ?_)
    simp [hvl, l1, hsvl]
    apply hK; clear hK K
    refine L_true (by simp; omega) ?_
    refine L_reg [] (fun K hK => ?_)
    simp [l2, hok]
    refine hV.step st v b H _ hN hS hv hrv (by simpa using hp) (fun H' hS' hK' => ?_)
    simp
    apply hK; clear hK K
    exact L_ret ⟨.inr rfl, _, rfl, (h H' (by simpa [enI] using hS') hK')⟩
  | succ d ih =>
    intro b I u v st H Q hI hb hIl hnd hbit hu hp hv hnl hrv hN hsl hP hS h
    obtain ⟨⟨m1, r1⟩, ⟨m2, r2⟩, ⟨m3, r3⟩⟩ := id hP
    have osv : sv.one = true := by obtain ⟨_, _, _, _, _, rfl, -⟩ := hsl; rfl
    have l1 : ld H ps 0 0 = some sv := by rw [ld_row r1]; exact known_one osv
    have hvl := ls_len hv
    have hsvl := ls_len hsl
    refine L_body 48 Try.func89 rfl rfl ?_
    refine L_reg [0, 1, 2, 3, 4, 14] (fun K hK => ?_)
    simp [hvl, l1, hsvl]
    apply hK; clear hK K
    refine L_false (by simp; omega) ?_
    refine L_reg [0, 1, 2, 4, 7] (fun K hK => ?_)
    simp
    apply hK; clear hK K
    refine L_reg [0, 1, 4, 7, 18, 19, 20] (fun K hK => ?_)
    simp [l1, hsvl]
    apply hK; clear hK K
    refine L_block (L_loopV [7, 20] (fun k vs H' => ∃ (i : Nat) (last : Int), k = s.length - i ∧ i ≤ s.length ∧ -1 ≤ last ∧ last ≤ 1000 ∧ (∀ j ∈ I, j < i → g s j ≤ last) ∧ ((∃ j ∈ I, j < i ∧ g s j = last) ∨ (last = -1 ∧ ∀ j ∈ I, i ≤ j)) ∧ vs = [.int .i64 last, .int .i64 i] ∧
      S (((List.range i).flatMap fun i => if fst' s I i then enI s d (b ++ [g s i]) (I.erase i) else []).foldl vis st) H' ∧ Kp W H H') _ [.int .i64 (-1), .int .i64 0] rfl ⟨0, -1, rfl, by omega, by omega, by omega, fun j _ hj => by omega, .inr ⟨rfl, fun j _ => by omega⟩, rfl, hS, .refl _ _⟩ ?_)
    rintro _ _ H1 ⟨i, last, rfl, hi, hl1, hl2, hle, hla, rfl, hS1, hK1⟩
    refine L_reg [0, 1, 4, 7, 18, 19, 20, 21] (fun K hK => ?_)
    simp
    apply hK; clear hK K
    refine L_dec (i < s.length) (by simp) (fun hlt => ?_) (fun hge => L_exit ?_)
    · refine L_block ?_
      have hsl1 := hK1.ls hsl hsv
      have hv1 := hK1.ls hv hrv
      have hP1 := hP.kp hK1 w1 w2 w3
      obtain ⟨rz, pz, vz, hix, hld⟩ := ls_ix hsl1 hlt
      have bx := hn _ (gmem hlt)
      refine L_reg [0, 1, 4, 7, 8, 9, 18, 19, 20] (fun K hK => ?_)
      simp [hix, hld]
      apply hK; clear hK K
      have hbF := bitF u hu i (by omega)
      rw [hbit i hlt] at hbF
      have hup : (List.range (i + 1)).flatMap (fun i => if fst' s I i then enI s d (b ++ [g s i]) (I.erase i) else []) = (List.range i).flatMap (fun i => if fst' s I i then enI s d (b ++ [g s i]) (I.erase i) else []) ++ if fst' s I i then enI s d (b ++ [g s i]) (I.erase i) else [] := by
        rw [List.range_succ, List.flatMap_append]; simp
      have hfi : fst' s I i ↔ i ∈ I ∧ g s i ≠ last := by
        constructor
        · rintro ⟨c1, c2⟩
          refine ⟨c1, fun e => ?_⟩
          rcases hla with ⟨j, h1, h2, h3⟩ | ⟨h1, -⟩
          · exact c2 j h1 h2 (by rw [h3, e])
          · omega
        · rintro ⟨c1, c2⟩
          refine ⟨c1, fun j hj hlj he => ?_⟩
          rcases hla with ⟨j', h1, h2, h3⟩ | ⟨-, h1⟩
          · have := hle j hj hlj
            have := hs j' i (by omega) hlt
            omega
          · have := h1 j hj; omega
      by_cases c1 : i ∈ I
      · rw [decide_eq_false (by simpa using c1)] at hbF
        by_cases c2 : g s i = last
        · have hnf : ¬ fst' s I i := fun h => (hfi.1 h).2 c2
          have c2' : (g s i != last) = false := by simp [c2]
          refine L_reg [0, 1, 4, 7, 8, 9, 18, 19, 20, 34] (fun K hK => ?_)
          simp [pickV, hbF, c2']
          apply hK; clear hK K
          refine L_false rfl ?_
          refine L_reg [0, 1, 4, 7, 18, 19, 20] (fun K hK => ?_)
          simp [wrap_i64 (a := (i : Int) + 1) (by omega)]
          apply hK; clear hK K
          refine ⟨s.length - (i + 1), [.int .i64 last, .int .i64 (i + 1 : Nat)], by omega, by simp, i + 1, last, rfl, by omega, hl1, hl2, fun j hj hlj => ?_, ?_, rfl, ?_, hK1⟩
          · by_cases e : j = i
            · rw [e, c2]; omega
            · exact hle j hj (by omega)
          · exact .inl ⟨i, c1, by omega, c2⟩
          · rw [hup, if_neg hnf, List.append_nil]; exact hS1
        · have hnf : fst' s I i := hfi.2 ⟨c1, c2⟩
          have c2' : (g s i != last) = true := by simp [c2]
          refine L_reg [0, 1, 4, 7, 8, 9, 18, 19, 20, 34] (fun K hK => ?_)
          simp [pickV, hbF, c2']
          apply hK; clear hK K
          refine L_true rfl ?_
          refine L_reg [0, 1, 4, 7, 8, 9, 18, 19, 20] (fun K hK => ?_)
          simp
          apply hK; clear hK K
          have hrow : Ext H1 (H1 ++ [AObj.row [AV.int .i64 (g s i)] 0 1 false, .row (b.map (.int .i64) ++ [.int .i64 (g s i)]) 0 0 false]) := Ext.push _ _
          obtain ⟨cu, hcu, hcapp⟩ := clip_app hv1 hnl (by omega)
          have hcl1 := fun Q h => Clip_ac v cu b H1 Q hv1 hcu h
          have hEB : Ext H1 (H1 ++ [AObj.row [AV.int .i64 (g s i)] 0 1 false]) := .push _ _
          have hcl2 := fun Q h => Clip_ac v cu b (H1 ++ [AObj.row [AV.int .i64 (g s i)] 0 1 false]) Q (hv1.ext hEB) hcu h
          have hsx : Ls (H1 ++ [AObj.row [AV.int .i64 (g s i)] 0 1 false]) (.slice (some H1.length) 0 1 0 1 false) [g s i] := Ls.row (ro := false) (l := [g s i]) (s := 1) (by simp) false
          have happ := hcapp (H1 ++ [AObj.row [AV.int .i64 (g s i)] 0 1 false]) (.slice (some H1.length) 0 1 0 1 false) (.int .i64 (g s i)) hEB (by have := src_ls el22 hsx; simpa using this) rfl
          have l3 : ld H1 pp 0 0 = some (.func (.func 89) [] [.ptr ps 0 0, .ptr pe 0 0, .ptr pp 0 0]) := by
            obtain ⟨_, _, ⟨m4, r4⟩⟩ := hP1
            rw [ld_row r4]; rfl
          have hok89 : okFn Try.prog 89 = true := by kernel_rfl
          have hw2 : Ls (H1 ++ [AObj.row [AV.int .i64 (g s i)] 0 1 false, .row (b.map (.int .i64) ++ [.int .i64 (g s i)]) 0 0 false]) (.slice (some (H1.length + 1)) 0 (b.length + 1) 0 1 false) (b ++ [g s i]) := by
            have hr3 : (H1 ++ [AObj.row [AV.int .i64 (g s i)] 0 1 false, .row (b.map (.int .i64) ++ [.int .i64 (g s i)]) 0 0 false])[H1.length + 1]? = some (.row ((b ++ [g s i]).map (.int .i64)) 0 0 false) := by simp
            have := Ls.row (ro := false) hr3 false
            simpa using this
          have hpos : (b ++ [g s i] ++ (I.erase i).map (g s)).Perm s := by
            refine List.Perm.trans ?_ hp
            rw [List.append_assoc]
            exact List.Perm.append_left _ ((List.perm_cons_erase c1).map (g s)).symm
          have hge := hK1.1
          have tail : ∀ (Q : AV → AH → Prop), (∀ H4, S (((List.range (i + 1)).flatMap fun i => if fst' s I i then enI s d (b ++ [g s i]) (I.erase i) else []).foldl vis st) H4 → Kp W H H4 → Q (.tuple []) H4) →
              AC Try.prog 89 [.slice (some (H1.length + 1)) 0 (b.length + 1) 0 1 false, .int .u64 ((u ||| 2 ^ i : Nat) : Int), .ptr ps 0 0, .ptr pe 0 0, .ptr pp 0 0] (H1 ++ [AObj.row [AV.int .i64 (g s i)] 0 1 false, .row (b.map (.int .i64) ++ [.int .i64 (g s i)]) 0 0 false]) Q := by
            intro Q hQ
            refine ih (b ++ [g s i]) (I.erase i) (u ||| 2 ^ i) _ _ _ _ (by rw [List.length_erase_of_mem c1]; omega) (by simp; omega) (fun j hj => hIl j (List.mem_of_mem_erase hj)) (hnd.erase _) (fun j hj => ?_) ?_ hpos hw2 (fun e => by simp at e) (fun j hj => ?_) (by simp; omega) (hsl1.ext hrow) (hP1.kp (.of hrow) w1 w2 w3) (hV.ext _ _ _ hS1 hrow) (fun H4 hS4 hK4 => hQ H4 ?_ (hK1.trans ((Kp.of hrow).trans hK4)))
            · rw [Nat.testBit_or, Nat.testBit_two_pow, hbit j hj]
              have hm := hnd.mem_erase_iff (a := i) (b := j)
              by_cases e : i = j
              · subst e; simp [hm]
              · have e' : j ≠ i := fun h => e h.symm
                simp [e, e']
            · exact Nat.or_lt_two_pow (n := 7) hu (Nat.lt_of_lt_of_le (Nat.pow_lt_pow_right (by omega) (by omega : i < 7)) (Nat.le_refl _))
            · have : H1.length + 1 = j := by simpa [rowOf] using hj
              intro hw
              have := hV.lt j hw
              omega
            · rw [hup, if_pos hnf, List.foldl_append]; exact hS4
          refine L_regR mixed (fun K hK => ?_)
          have hfin : ∀ H4, S (((List.range (i + 1)).flatMap fun i => if fst' s I i then enI s d (b ++ [g s i]) (I.erase i) else []).foldl vis st) H4 → Kp W H H4 → K .normal [(0, v), (1, .int .u64 u), (4, .ptr pp 0 0), (7, .int .i64 (g s i)), (18, sv), (19, .int .i64 s.length), (20, .int .i64 i)] H4 := fun H4 hS4 hK4 => by
            apply hK; clear hK K
            refine L_reg [0, 1, 4, 7, 18, 19, 20] (fun K hK => ?_)
            simp [wrap_i64 (a := (i : Int) + 1) (by omega)]
            apply hK; clear hK K
            refine ⟨s.length - (i + 1), [.int .i64 (g s i), .int .i64 (i + 1 : Nat)], by omega, by simp, i + 1, g s i, rfl, by omega, by omega, by omega, fun j hj hlj => hs j i (by omega) hlt, .inl ⟨i, c1, by omega, rfl⟩, rfl, hS4, hK4⟩
          refine AWR_pair (x := 2) (y := 4) (ord := [0, 1, 3, 4, 2, 5, 6, 7, 8, 9, 10]) (by kernel_rfl) ?_ ?_
          · refine AWR_UM [0, 1, 4, 7, 18, 19, 20] [true, false, false, false, false, false, false, false, false, false] rfl (by kernel_rfl) ?_
            simp [addE, okFn_low, l3]
            refine exX_mk hcl1 (.refl _) ?_
            have hbO := bitO u hu i (by omega)
            simp [happ, hEB, hok89, hbO]
            refine ⟨fun _ => hrow, tail _ fun H4 hS4 hK4 => ?_⟩
            simp
            exact hfin H4 hS4 hK4
          · refine AWR_UM [0, 1, 4, 7, 18, 19, 20] [true, false, false, false, false, false, false, false, false, false] rfl (by kernel_rfl) ?_
            simp [addE, permL, okFn_low, l3]
            refine ⟨hEB, exX_mk hcl2 (.refl _) ?_⟩
            have hbO := bitO u hu i (by omega)
            simp [happ, hok89, hbO]
            refine ⟨fun _ => hrow, tail _ fun H4 hS4 hK4 => ?_⟩
            simp
            exact hfin H4 hS4 hK4
      · have hnf : ¬ fst' s I i := fun h => c1 h.1
        rw [decide_eq_true (by simpa using c1)] at hbF
        refine L_reg [0, 1, 4, 7, 8, 9, 18, 19, 20, 34] (fun K hK => ?_)
        simp [pickV, hbF]
        apply hK; clear hK K
        refine L_false rfl ?_
        refine L_reg [0, 1, 4, 7, 18, 19, 20] (fun K hK => ?_)
        simp [wrap_i64 (a := (i : Int) + 1) (by omega)]
        apply hK; clear hK K
        refine ⟨s.length - (i + 1), [.int .i64 last, .int .i64 (i + 1 : Nat)], by omega, by simp, i + 1, last, rfl, by omega, hl1, hl2, fun j hj hlj => ?_, ?_, rfl, ?_, hK1⟩
        · by_cases e : j = i
          · rw [e] at hj; exact absurd hj c1
          · exact hle j hj (by omega)
        · rcases hla with ⟨j, h1, h2, h3⟩ | ⟨h1, h2⟩
          · exact .inl ⟨j, h1, by omega, h3⟩
          · refine .inr ⟨h1, fun j hj => ?_⟩
            have := h2 j hj
            by_cases e : j = i
            · rw [e] at hj; exact absurd hj c1
            · omega
        · rw [hup, if_neg hnf, List.append_nil]; exact hS1
    · obtain rfl : i = s.length := by omega
      exact ⟨.inl rfl, _, rfl, h H1 (by simpa only [enI] using hS1) hK1⟩
set_option maxRecDepth 100000 in
theorem all_ac {σ : Type} {s : List Int} {W : Nat → Prop} {N : Nat} {fE : FuncId} {caps : List AV} {S : σ → AH → Prop} {vis : σ → List Int → σ} (hV : Vis s W N fE caps S vis) (hs : Asc s) (hn : ∀ x ∈ s, 0 ≤ x ∧ x ≤ 1000) (h7 : s.length ≤ 7)
    (v : AV) (st : σ) (H : AH) (Q : AV → AH → Prop) (hv : Ls H v s) (hrv : ∀ j, rowOf v = some j → ¬ W j) (hN : N ≤ H.length) (hS : S st H) (h : ∀ H', S ((en s).foldl vis st) H' → Kp W H H' → Q (.tuple []) H') : AC Try.prog 48 [v, .func (.func fE) [] caps] H Q := by
  obtain ⟨r0, off0, ver0, sz0, full0, hv0, -⟩ := id hv
  refine L_body 8 Try.func48 rfl rfl ?_
  refine L_reg [2, 3] (fun K hK => ?_)
  simp [hv0, AV.isU, acells]
  apply hK; clear hK K
  rw [← hv0]
  refine L_reg [2, 3, 4] (fun K hK => ?_)
  simp
  apply hK; clear hK K
  have hz : List.map (absV 2) Value.nilFunc.cells.toList = [AV.nilfunc] := by rfl
  have hst : storeV Try.prog 82 (H ++ [AObj.row [v] 0 0 false, AObj.row [.func (.func fE) [] caps] 0 0 false, AObj.row [AV.nilfunc] 0 0 false]) (.ptr (H.length + 2) 0 0) (.func (.func 89) [] [.ptr H.length 0 0, .ptr (H.length + 1) 0 0, .ptr (H.length + 2) 0 0]) = some (none, H ++ [AObj.row [v] 0 0 false, AObj.row [.func (.func fE) [] caps] 0 0 false, AObj.row [.func (.func 89) [] [.ptr H.length 0 0, .ptr (H.length + 1) 0 0, .ptr (H.length + 2) 0 0]] 0 0 false]) := by
    have := store_last (P := Try.prog) (H := H ++ [AObj.row [v] 0 0 false, AObj.row [.func (.func fE) [] caps] 0 0 false]) (u := 82) (c := [AV.nilfunc]) (p := 0) (v := 0) (s := 0) sc82 (x := .func (.func 89) [] [.ptr H.length 0 0, .ptr (H.length + 1) 0 0, .ptr (H.length + 2) 0 0]) (y := .nilfunc) rfl rfl
    simpa using this
  refine L_reg [4] (fun K hK => ?_)
  simp [hz, hst]
  apply hK; clear hK K
  have hE : Ext H (H ++ [AObj.row [v] 0 0 false, AObj.row [.func (.func fE) [] caps] 0 0 false, AObj.row [.func (.func 89) [] [.ptr H.length 0 0, .ptr (H.length + 1) 0 0, .ptr (H.length + 2) 0 0]] 0 0 false]) := .push _ _
  have hP : PA H.length (H.length + 1) (H.length + 2) v (.func (.func fE) [] caps) (H ++ [AObj.row [v] 0 0 false, AObj.row [.func (.func fE) [] caps] 0 0 false, AObj.row [.func (.func 89) [] [.ptr H.length 0 0, .ptr (H.length + 1) 0 0, .ptr (H.length + 2) 0 0]] 0 0 false]) := ⟨⟨0, by simp⟩, ⟨0, by simp⟩, ⟨0, by simp⟩⟩
  generalize H ++ [AObj.row [v] 0 0 false, AObj.row [.func (.func fE) [] caps] 0 0 false, AObj.row [.func (.func 89) [] [.ptr H.length 0 0, .ptr (H.length + 1) 0 0, .ptr (H.length + 2) 0 0]] 0 0 false] = H1 at *
  have l3 : ld H1 (H.length + 2) 0 0 = some (.func (.func 89) [] [.ptr H.length 0 0, .ptr (H.length + 1) 0 0, .ptr (H.length + 2) 0 0]) := by
    obtain ⟨-, -, ⟨m4, r4⟩⟩ := hP
    rw [ld_row r4]; rfl
  have hok89 : okFn Try.prog 89 = true := by kernel_rfl
  have hW : ∀ k, ¬ W (H.length + k) := fun k hk => by have := hV.lt _ hk; omega
  have := hE.1
  refine L_reg [] (fun K hK => ?_)
  simp [l3, hok89]
  refine put_ac hV hs hn h7 H.length (H.length + 1) (H.length + 2) v (hW 0) (hW 1) (hW 2) hrv s.length [] (List.range s.length) 0 _ st H1 _ (by simp) (by simp) (fun i hi => List.mem_range.1 hi) List.nodup_range (fun i hi => by simp [hi]) (by decide) (by rw [map_g]; exact .refl _) (.nil _) (fun _ => rfl) (fun j hj => by simp [rowOf] at hj) (by omega) (hv.ext hE) hP (hV.ext _ _ _ hS hE) (fun H4 hS4 hK4 => ?_)
  simp
  apply hK; clear hK K
  exact ⟨.inl rfl, _, rfl, h H4 hS4 ((Kp.of hE).trans hK4)⟩
end Go.Proofs.Ytpfkioakjmpimaa

/- What the laws' visitors keep: the first of the best arrangements. -/
namespace Go.Proofs.Ytpfkioakjmpimaa
open Go Go.Proofs.Ytpfkioakjmpimaa.AX
set_option linter.unusedVariables false
def Wc (pl pf : Nat) : Nat → Prop := fun j => j = pl ∨ j = pf
structure Cel (pr pl pf : Nat) (r : Bool) (fn : Int → Int) (st : Int × List Int) (H : AH) : Prop where
  r : ∃ m, H[pr]? = some (.row [.bool r] 0 m false)
  l : ∃ m, H[pl]? = some (.row [.int .i64 (fn st.1)] 0 m false)
  f : ∃ w m, H[pf]? = some (.row [w] 0 m false) ∧ Ls H w st.2 ∧ ∀ j, rowOf w = some j → ¬ Wc pl pf j
theorem Cel.ext {pr pl pf : Nat} {r : Bool} {fn : Int → Int} {st : Int × List Int} {H H' : AH} (h : Cel pr pl pf r fn st H) (hE : Ext H H') : Cel pr pl pf r fn st H' := by
  obtain ⟨⟨m, a⟩, ⟨n, b⟩, ⟨w, o, c, d, e⟩⟩ := h
  exact ⟨⟨m, hE.row a⟩, ⟨n, hE.row b⟩, ⟨w, o, hE.row c, d.ext hE, e⟩⟩
theorem Cel.put {pr pl pf : Nat} {r : Bool} {fn : Int → Int} {st : Int × List Int} {H : AH} (h : Cel pr pl pf r fn st H) (h1 : pr ≠ pl) (h2 : pr ≠ pf) (h3 : pl ≠ pf) {v : AV} {p : List Int} {c : Int} (hv : Ls H v p) (hr : ∀ j, rowOf v = some j → ¬ Wc pl pf j) :
    ∃ H1 H2, storeV Try.prog 3 H (.ptr pl 0 0) (.int .i64 (fn c)) = some (none, H1) ∧ storeV Try.prog 22 H1 (.ptr pf 0 0) v = some (none, H2) ∧ Cel pr pl pf r fn (c, p) H2 ∧ Kp (Wc pl pf) H H2 := by
  obtain ⟨⟨m, a⟩, ⟨n, b⟩, ⟨w, o, x, d, e⟩⟩ := h
  have ov : v.one = true := by obtain ⟨_, _, _, _, _, rfl, -⟩ := hv; rfl
  have ow : w.one = true := by obtain ⟨_, _, _, _, _, rfl, -⟩ := d; rfl
  have e1 := store_row (P := Try.prog) sc3 (r := pl) (x := .int .i64 (fn c)) (y := .int .i64 (fn st.1)) (p := 0) rfl b rfl
  have x2 : (H.set pl (AObj.row (([AV.int .i64 (fn st.1)] : List AV).set 0 (.int .i64 (fn c))) 0 (min n 0) false))[pf]? = some (.row [w] 0 o false) := by rw [List.getElem?_set_ne h3, x]
  have e2 := store_row (P := Try.prog) sc22 (r := pf) (x := v) (y := w) (p := 0) ov x2 (known_one ow)
  refine ⟨_, _, e1, e2, ?_, ?_⟩
  · refine ⟨⟨m, ?_⟩, ⟨0, ?_⟩, ⟨v, 0, ?_, ?_, hr⟩⟩
    · rw [List.getElem?_set_ne (Ne.symm h2), List.getElem?_set_ne (Ne.symm h1), a]
    · rw [List.getElem?_set_ne (Ne.symm h3), get_set b]; simp
    · rw [get_set x2]; simp
    · refine ls_keep hv fun j hj hj2 => ?_
      have := hr j hj2
      rw [List.getElem?_set_ne (fun e => this (.inr e.symm)), List.getElem?_set_ne (fun e => this (.inl e.symm))]
  · refine ⟨by simp, fun j hj hw => ?_⟩
    rw [List.getElem?_set_ne (fun e => hw (.inr e.symm)), List.getElem?_set_ne (fun e => hw (.inl e.symm))]
set_option maxRecDepth 100000 in
theorem vis49 {s : List Int} (hb : Bd 1000 s) (h7 : s.length ≤ 7) {pr pl pf N : Nat} {r : Bool} (h1 : pr ≠ pl) (h2 : pr ≠ pf) (h3 : pl ≠ pf) (hl : pl < N) (hf : pf < N) : Vis s (Wc pl pf) N 49 [.ptr pr 0 0, .ptr pl 0 0, .ptr pf 0 0] (Cel pr pl pf r id) (visit (stepC r)) where
  ok := by kernel_rfl
  lt j h := by rcases h with rfl | rfl <;> assumption
  ext st H H' h hE := h.ext hE
  step st v l H Q hN hS hv hrv hp h := by
    have hlb := hb.perm hp
    have hll := hp.length_eq
    obtain ⟨m, a⟩ := hS.r
    have lr : ld H pr 0 0 = some (.bool r) := by rw [ld_row a]; rfl
    refine L_body 15 Try.func49 rfl rfl ?_
    refine L_reg [0, 2, 3, 5] (fun K hK => ?_)
    simp [okFn_low, lr]
    refine stepsL_ac v l r _ _ (by omega) hlb hv (fun w H1 hO hE => ?_)
    simp [okFn_low]
    refine greatestL_ac w _ _ _ (by rw [steps_len]; split <;> omega) hO.own.ls ?_
    simp
    apply hK; clear hK K
    have hS1 := hS.ext hE
    have hv1 := hv.ext hE
    obtain ⟨n, b⟩ := hS1.l
    have ll : ld H1 pl 0 0 = some (.int .i64 st.1) := by rw [ld_row b]; rfl
    refine L_reg [0, 2, 3, 5, 12] (fun K hK => ?_)
    simp [ll]
    apply hK; clear hK K
    by_cases c : stepC r l < st.1
    · refine L_true (by unfold stepC at c; simp [c]) ?_
      obtain ⟨H2, H3, e1, e2, hS3, hK3⟩ := hS1.put h1 h2 h3 (c := stepC r l) hv1 hrv
      have e1' : storeV Try.prog 3 H1 (.ptr pl 0 0) (.int .i64 (gr (stepsS r l))) = some (none, H2) := e1
      refine L_reg [] (fun K hK => ?_)
      simp [e1', e2]
      apply hK; clear hK K
      refine ⟨.inl rfl, _, rfl, h H3 ?_ ((Kp.of hE).trans hK3)⟩
      unfold visit; rw [if_pos c]; exact hS3
    · refine L_false (by unfold stepC at c; simp; omega) ?_
      refine ⟨.inl rfl, _, rfl, h H1 ?_ (Kp.of hE)⟩
      unfold visit; rw [if_neg c]; exact hS1
set_option maxRecDepth 100000 in
theorem vis54 {s : List Int} (hb : Bd 1000 s) (h7 : s.length ≤ 7) {pr pl pf N : Nat} {r : Bool} (h1 : pr ≠ pl) (h2 : pr ≠ pf) (h3 : pl ≠ pf) (hl : pl < N) (hf : pf < N) : Vis s (Wc pl pf) N 54 [.ptr pr 0 0, .ptr pl 0 0, .ptr pf 0 0] (Cel pr pl pf r fun x => -x) (visit (fun p => -sumC r p)) where
  ok := by kernel_rfl
  lt j h := by rcases h with rfl | rfl <;> assumption
  ext st H H' h hE := h.ext hE
  step st v l H Q hN hS hv hrv hp h := by
    have hlb := hb.perm hp
    have hll := hp.length_eq
    obtain ⟨m, a⟩ := hS.r
    have lr : ld H pr 0 0 = some (.bool r) := by rw [ld_row a]; rfl
    have hdb : Bd 1000000000 (stepsS r l) := fun x hx => by have := df_bd hlb (r := r) x hx; omega
    refine L_body 15 Try.func54 rfl rfl ?_
    refine L_reg [0, 2, 3, 5] (fun K hK => ?_)
    simp [okFn_low, lr]
    refine stepsL_ac v l r _ _ (by omega) hlb hv (fun w H1 hO hE => ?_)
    simp [okFn_low]
    refine sumL_ac w _ _ _ (by rw [steps_len]; split <;> omega) hdb hO.own.ls ?_
    simp
    apply hK; clear hK K
    have hS1 := hS.ext hE
    have hv1 := hv.ext hE
    obtain ⟨n, b⟩ := hS1.l
    have ll : ld H1 pl 0 0 = some (.int .i64 (-st.1)) := by rw [ld_row b]; rfl
    refine L_reg [0, 2, 3, 5, 12] (fun K hK => ?_)
    simp [ll]
    apply hK; clear hK K
    by_cases c : -sumC r l < st.1
    · have c' : -st.1 < (stepsS r l).sum := by unfold sumC at c; omega
      refine L_true (by simp [c']) ?_
      obtain ⟨H2, H3, e1, e2, hS3, hK3⟩ := hS1.put h1 h2 h3 (c := -sumC r l) hv1 hrv
      have e1' : storeV Try.prog 3 H1 (.ptr pl 0 0) (.int .i64 (stepsS r l).sum) = some (none, H2) := by simpa [sumC] using e1
      refine L_reg [] (fun K hK => ?_)
      simp [e1', e2]
      apply hK; clear hK K
      refine ⟨.inl rfl, _, rfl, h H3 ?_ ((Kp.of hE).trans hK3)⟩
      unfold visit; rw [if_pos c]; exact hS3
    · have c' : ¬ -st.1 < (stepsS r l).sum := by unfold sumC at c; omega
      refine L_false (by simp; omega) ?_
      refine ⟨.inl rfl, _, rfl, h H1 ?_ (Kp.of hE)⟩
      unfold visit; rw [if_neg c]; exact hS1
end Go.Proofs.Ytpfkioakjmpimaa

/- The greatest rise and its first index, as the law finds them. -/
namespace Go.Proofs.Ytpfkioakjmpimaa
open Go Go.Proofs.Ytpfkioakjmpimaa.AX
set_option linter.unusedVariables false
theorem idx_is {x : Int} : ∀ {l : List Int} {j : Nat}, j < l.length → g l j = x → (∀ k, k < j → g l k ≠ x) → idx x l = j
  | [], j, h, _, _ => by simp at h
  | a :: l, 0, _, h, _ => by
    have : a = x := h
    unfold idx; rw [if_pos this.symm]; rfl
  | a :: l, j + 1, hj, h, hk => by
    have h0 : a ≠ x := hk 0 (by omega)
    have ih := idx_is (l := l) (j := j) (by simpa using hj) h fun k hkj => hk (k + 1) (by omega)
    unfold idx; rw [if_neg (Ne.symm h0), ih]
    rw [if_neg (by omega)]; simp
/-- What the law has found so far: the greatest rise and where it is first. -/
def Top (R : List Int) (i : Nat) (want index : Int) : Prop := (i = 0 ∧ want = 0 ∧ index = -1) ∨ ∃ j : Nat, index = j ∧ j < i ∧ g R j = want ∧ (∀ k, k < i → g R k ≤ want) ∧ ∀ k, k < j → g R k < want
theorem Top.next {R : List Int} {i : Nat} {w x : Int} (h : Top R i w x) : Top R (i + 1) (if x < 0 ∨ w < g R i then g R i else w) (if x < 0 ∨ w < g R i then i else x) := by
  rcases h with ⟨rfl, rfl, rfl⟩ | ⟨j, rfl, h1, h2, h3, h4⟩
  · rw [if_pos (.inl (by decide)), if_pos (.inl (by decide))]
    exact .inr ⟨0, rfl, by omega, rfl, fun k hk => by rw [show k = 0 by omega]; exact Int.le_refl _, fun k hk => by omega⟩
  · by_cases c : w < g R i
    · rw [if_pos (.inr c), if_pos (.inr c)]
      refine .inr ⟨i, rfl, by omega, rfl, fun k hk => ?_, fun k hk => ?_⟩
      · by_cases e : k = i
        · rw [e]; omega
        · have := h3 k (by omega); omega
      · have := h3 k hk; omega
    · rw [if_neg (by omega), if_neg (by omega)]
      refine .inr ⟨j, rfl, by omega, h2, fun k hk => ?_, h4⟩
      by_cases e : k = i
      · rw [e]; omega
      · exact h3 k (by omega)
theorem Top.end {R : List Int} {w x : Int} (hn : ∀ y ∈ R, 0 ≤ y) (h : Top R R.length w x) : w = gr R ∧ (R = [] → x = -1) ∧ (R ≠ [] → x = idx (gr R) R ∧ 0 ≤ x) := by
  rcases h with ⟨h0, rfl, rfl⟩ | ⟨j, rfl, h1, h2, h3, h4⟩
  · have : R = [] := List.eq_nil_of_length_eq_zero h0
    subst this
    exact ⟨rfl, fun _ => rfl, fun h => absurd rfl h⟩
  · have hw : w = gr R := by
      apply Int.le_antisymm
      · rw [← h2]; exact le_gr (gmem h1)
      · refine gr_le (by rw [← h2]; exact hn _ (gmem h1)) fun y hy => ?_
        obtain ⟨k, hk, rfl⟩ := memg hy
        exact h3 k hk
    refine ⟨hw, fun e => by subst e; simp at h1, fun _ => ⟨?_, by omega⟩⟩
    rw [← hw]
    exact (idx_is h1 h2 fun k hk => by have := h4 k hk; omega).symm
theorem rs_nil {r : Bool} {l : List Int} (h1 : 1 ≤ l.length) : rsS r l = [] ↔ l.length = 1 := by
  have := rsS_len r l
  have h2 := reach_le h1 r
  constructor
  · intro e; rw [e] at this; simp at this
    unfold reachS at *; split at this <;> omega
  · intro e
    apply List.eq_nil_of_length_eq_zero
    rw [this, e]
    unfold reachS; split <;> simp_all
theorem steps_le {r : Bool} {q : List Int} (h : ∀ x ∈ q, 0 ≤ x ∧ x ≤ 60) : ∀ y ∈ stepsS r q, y ≤ 60 := fun y hy => by
  have hd : ∀ i j, i < q.length → j < q.length → df (g q i) (g q j) ≤ 60 := fun i j hi hj => by
    have h1 := h _ (gmem hi)
    have h2 := h _ (gmem hj)
    unfold df; omega
  rcases List.mem_append.1 hy with hy | hy
  · obtain ⟨i, hi, rfl⟩ := mem_stp.1 hy
    exact hd _ _ (by omega) (by omega)
  · split at hy
    · rename_i c
      obtain rfl : y = _ := by simpa using hy
      exact hd _ _ (by omega) (by omega)
    · cases hy
theorem stepC_le {r : Bool} {q : List Int} (h : ∀ x ∈ q, 0 ≤ x ∧ x ≤ 60) : stepC r q ≤ 60 := gr_le (by decide) (steps_le h)
end Go.Proofs.Ytpfkioakjmpimaa

/- The greatest sum: the mathematics. -/
namespace Go.Proofs.Ytpfkioakjmpimaa
open Go Go.Proofs.Ytpfkioakjmpimaa.AX
set_option linter.unusedVariables false
def sumN (f : Nat → Int) : Nat → Int
  | 0 => 0
  | n + 1 => sumN f n + f n
theorem sumN_le {f h : Nat → Int} : ∀ {n : Nat}, (∀ i, i < n → f i ≤ h i) → sumN f n ≤ sumN h n
  | 0, _ => Int.le_refl _
  | n + 1, e => by
    have h1 := sumN_le (f := f) (h := h) (n := n) fun i hi => e i (by omega)
    have h2 := e n (by omega)
    simp only [sumN]; omega
theorem sumN_eq {f h : Nat → Int} : ∀ {n : Nat}, (∀ i, i < n → f i = h i) → sumN f n = sumN h n
  | 0, _ => rfl
  | n + 1, e => by
    have h1 := sumN_eq (f := f) (h := h) (n := n) fun i hi => e i (by omega)
    have h2 := e n (by omega)
    simp only [sumN]; omega
theorem sum_take_N (l : List Int) : ∀ i, i ≤ l.length → (l.take i).sum = sumN (g l) i
  | 0, _ => rfl
  | i + 1, h => by rw [sum_take (by omega), sum_take_N l i (by omega)]; rfl
theorem sum_N (l : List Int) : l.sum = sumN (g l) l.length := by
  have := sum_take_N l l.length (Nat.le_refl _)
  rwa [List.take_length] at this
theorem sumN_pair (F : Nat → Int) : ∀ k, sumN (fun i => F i + F (i + 1)) k + F k + F 0 = 2 * sumN F (k + 1)
  | 0 => by simp only [sumN]; omega
  | k + 1 => by
    have := sumN_pair F k
    simp only [sumN] at *; omega
/-- How far all shades are from one. -/
def dist (m : Int) (p : List Int) : Int := (p.map fun x => df x m).sum
theorem dist_N (m : Int) (p : List Int) : dist m p = sumN (fun i => df (g p i) m) p.length := by
  unfold dist
  rw [sum_N, List.length_map]
  refine sumN_eq fun i hi => ?_
  rw [g_lt (by simpa using hi), g_lt hi]; simp
theorem dist_perm {m : Int} {p q : List Int} (h : p.Perm q) : dist m p = dist m q := sum_perm (h.map _)
theorem sum_round {p : List Int} (h2 : 2 ≤ p.length) : sumC true p = sumN (fun i => df (g p i) (g p (i + 1))) (p.length - 1) + df (g p (p.length - 1)) (g p 0) := by
  unfold sumC stepsS
  rw [if_pos ⟨rfl, by omega⟩, List.sum_append, sum_N, stp_len]
  simp only [List.sum_cons, List.sum_nil, Int.add_zero]
  congr 1
  exact sumN_eq fun i hi => g_stp (by omega)
theorem round_le (m : Int) (p : List Int) : sumC true p ≤ 2 * dist m p := by
  by_cases h2 : 2 ≤ p.length
  · rw [sum_round h2, dist_N]
    have h := sumN_pair (fun i => df (g p i) m) (p.length - 1)
    rw [Nat.sub_add_cancel (by omega)] at h
    have h3 := sumN_le (f := fun i => df (g p i) (g p (i + 1))) (h := fun i => df (g p i) m + df (g p (i + 1)) m) (n := p.length - 1) fun i _ => by
      have := df_tri (g p i) m (g p (i + 1)); rw [df_comm m] at this; exact this
    have h4 := df_tri (g p (p.length - 1)) m (g p 0)
    rw [df_comm m] at h4
    omega
  · have h0 : sumC true p = 0 := by
      unfold sumC stepsS stp
      rw [if_neg (by omega), show p.length - 1 = 0 by omega]; rfl
    have : 0 ≤ dist m p := by
      rw [dist_N]
      have := sumN_le (f := fun _ => 0) (h := fun i => df (g p i) m) (n := p.length) fun i _ => df_nn _ _
      have z : ∀ n, sumN (fun _ => 0) n = 0 := fun n => by induction n with
        | zero => rfl
        | succ n ih => simp only [sumN, ih]; rfl
      rw [z] at this; exact this
    omega
/-- The smaller half and the greater half by turns. -/
def alt (s : List Int) : List Int := (List.range s.length).map fun k => if k % 2 = 0 then g s (k / 2) else g s (s.length - s.length / 2 + k / 2)
theorem alt_len (s : List Int) : (alt s).length = s.length := by simp [alt]
theorem g_alt {s : List Int} {k : Nat} (h : k < s.length) : g (alt s) k = if k % 2 = 0 then g s (k / 2) else g s (s.length - s.length / 2 + k / 2) := by
  rw [g_lt (by rw [alt_len]; exact h)]; simp [alt]
theorem alt_perm (s : List Int) : (alt s).Perm s := by
  have hal := alt_len s
  have e1 : ev (alt s) = s.take (s.length - s.length / 2) := g_ext (by rw [ev_len, hal, List.length_take]; omega) fun i hi => by
    rw [ev_len, hal] at hi
    rw [g_ev _ _ (by rw [ev_len, hal]; exact hi), g_alt (by omega), if_pos (by omega), show 2 * i / 2 = i by omega]
    unfold g; simp only [List.getD_eq_getElem?_getD, List.getElem?_take]; rw [if_pos (by omega)]
  have e2 : od (alt s) = s.drop (s.length - s.length / 2) := g_ext (by rw [od_len, hal, List.length_drop]; omega) fun i hi => by
    rw [od_len, hal] at hi
    rw [g_od _ _ (by rw [od_len, hal]; exact hi), g_alt (by omega), if_neg (by omega), show (2 * i + 1) / 2 = i by omega]
    unfold g; simp only [List.getD_eq_getElem?_getD, List.getElem?_drop]
  have := ev_od (alt s)
  rw [e1, e2, List.take_append_drop] at this
  exact this.symm
theorem df_cross {a b m : Int} (h : (a ≤ m ∧ m ≤ b) ∨ (b ≤ m ∧ m ≤ a)) : df a b = df a m + df b m := by unfold df; omega
theorem alt_sum {s : List Int} (hs : Asc s) (h2 : 2 ≤ s.length) : sumC true (alt s) = 2 * dist (g s (s.length / 2)) (alt s) := by
  have hal := alt_len s
  rw [sum_round (by omega), dist_N]
  have h := sumN_pair (fun i => df (g (alt s) i) (g s (s.length / 2))) ((alt s).length - 1)
  rw [Nat.sub_add_cancel (by omega)] at h
  have lo : ∀ k, k < s.length → k % 2 = 0 → g (alt s) k ≤ g s (s.length / 2) := fun k hk he => by
    rw [g_alt hk, if_pos he]; exact hs _ _ (by omega) (by omega)
  have hi : ∀ k, k < s.length → k % 2 = 1 → g s (s.length / 2) ≤ g (alt s) k := fun k hk he => by
    rw [g_alt hk, if_neg (by omega)]; exact hs _ _ (by omega) (by omega)
  have h3 := sumN_eq (f := fun i => df (g (alt s) i) (g (alt s) (i + 1))) (h := fun i => df (g (alt s) i) (g s (s.length / 2)) + df (g (alt s) (i + 1)) (g s (s.length / 2))) (n := (alt s).length - 1) fun i hi' => by
    apply df_cross
    by_cases c : i % 2 = 0
    · exact .inl ⟨lo i (by omega) c, hi (i + 1) (by omega) (by omega)⟩
    · exact .inr ⟨lo (i + 1) (by omega) (by omega), hi i (by omega) (by omega)⟩
  have h4 : df (g (alt s) ((alt s).length - 1)) (g (alt s) 0) = df (g (alt s) ((alt s).length - 1)) (g s (s.length / 2)) + df (g (alt s) 0) (g s (s.length / 2)) := by
    apply df_cross
    have l0 := lo 0 (by omega) rfl
    by_cases c : (s.length - 1) % 2 = 0
    · have e : g (alt s) ((alt s).length - 1) = g s (s.length / 2) := by
        rw [hal, g_alt (by omega), if_pos c]; congr 1; omega
      rw [e]; exact .inr ⟨l0, Int.le_refl _⟩
    · rw [hal]; exact .inr ⟨l0, hi _ (by omega) (by omega)⟩
  omega
/-- The greater half less the smaller half. -/
def half (s : List Int) : Nat → Int := sumN fun i => g s (s.length - 1 - i) - g s i
theorem dist_half {s : List Int} (hs : Asc s) (h1 : 1 ≤ s.length) (h6 : s.length ≤ 6) : dist (g s (s.length / 2)) s = half s (s.length / 2) := by
  rw [dist_N]
  unfold half
  have lo : ∀ k, k ≤ s.length / 2 → df (g s k) (g s (s.length / 2)) = g s (s.length / 2) - g s k := fun k hk => by
    have := hs k (s.length / 2) hk (by omega); unfold df; omega
  have hi : ∀ k, s.length / 2 ≤ k → k < s.length → df (g s k) (g s (s.length / 2)) = g s k - g s (s.length / 2) := fun k hk hk2 => by
    have := hs (s.length / 2) k hk hk2; unfold df; omega
  generalize hn : s.length = n at *
  obtain rfl | rfl | rfl | rfl | rfl | rfl : n = 1 ∨ n = 2 ∨ n = 3 ∨ n = 4 ∨ n = 5 ∨ n = 6 := by omega
  · have := lo 0 (by omega); simp [sumN] at *; omega
  · have a := lo 0 (by omega); have b := hi 1 (by omega) (by omega); simp [sumN] at *; omega
  · have a := lo 0 (by omega); have b := hi 1 (by omega) (by omega); have c := hi 2 (by omega) (by omega); simp [sumN] at *; omega
  · have a := lo 0 (by omega); have b := lo 1 (by omega); have c := hi 2 (by omega) (by omega); have d := hi 3 (by omega) (by omega); simp [sumN] at *; omega
  · have a := lo 0 (by omega); have b := lo 1 (by omega); have c := hi 2 (by omega) (by omega); have d := hi 3 (by omega) (by omega); have e := hi 4 (by omega) (by omega); simp [sumN] at *; omega
  · have a := lo 0 (by omega); have b := lo 1 (by omega); have x := lo 2 (by omega); have c := hi 3 (by omega) (by omega); have d := hi 4 (by omega) (by omega); have e := hi 5 (by omega) (by omega); simp [sumN] at *; omega
theorem most_le {r : Bool} {l p : List Int} (hp : p.Perm l) : sumC r p ≤ sumC r (wideS r l) := by
  have := Arr.best_cost (c := fun p => -sumC r p) hp
  show _ ≤ sumC r (Arr.bestS (fun p => -sumC r p) l)
  omega
theorem most_round {l : List Int} (h1 : 1 ≤ l.length) (h6 : l.length ≤ 6) : sumC true (wideS true l) = 2 * half (srt l) (l.length / 2) := by
  have hasc := asc_of (srt_sorted l)
  have hsl := srt_len l
  have hd := dist_half hasc (by omega) (by omega)
  rw [hsl] at hd
  have h3 := round_le (g (srt l) (l.length / 2)) (wideS true l)
  rw [dist_perm ((wideS_perm true l).trans (srt_perm l).symm), hd] at h3
  by_cases h2 : 2 ≤ l.length
  · have h4 := alt_sum hasc (by omega)
    rw [dist_perm (alt_perm (srt l)), hsl, hd] at h4
    have h5 := most_le (r := true) ((alt_perm (srt l)).trans (srt_perm l))
    omega
  · have e : l.length / 2 = 0 := by omega
    rw [e] at h3 ⊢
    have : 0 ≤ sumC true (wideS true l) := by
      have hl := (wideS_perm true l).length_eq
      unfold sumC stepsS stp
      rw [if_neg (by omega), show (wideS true l).length - 1 = 0 by omega]; exact Int.le_refl _
    have z : half (srt l) 0 = 0 := rfl
    omega
theorem straight_le (l : List Int) : sumC false (wideS false l) ≤ sumC true (wideS true l) := by
  refine Int.le_trans ?_ (most_le (wideS_perm false l))
  unfold sumC stepsS
  rw [if_neg (by simp)]
  split
  · simp only [List.sum_append, List.sum_cons, List.sum_nil]
    have := df_nn (g (wideS false l) ((wideS false l).length - 1)) (g (wideS false l) 0)
    omega
  · exact Int.le_refl _
theorem straight_ge {l : List Int} (h1 : 1 ≤ l.length) : sumC true (wideS true l) - (g (srt l) (l.length - 1) - g (srt l) 0) ≤ sumC false (wideS false l) := by
  refine Int.le_trans ?_ (most_le (wideS_perm true l))
  have hp := wideS_perm true l
  have hasc := asc_of (srt_sorted l)
  have hsl := srt_len l
  have hb : ∀ i, i < (wideS true l).length → g (srt l) 0 ≤ g (wideS true l) i ∧ g (wideS true l) i ≤ g (srt l) (l.length - 1) := fun i hi => by
    obtain ⟨k, hk, e⟩ := memg ((hp.trans (srt_perm l).symm).mem_iff.1 (gmem hi))
    rw [← e]
    exact ⟨hasc 0 k (by omega) hk, hasc k (l.length - 1) (by omega) (by omega)⟩
  have hpl := hp.length_eq
  have q1 := hb 0 (by omega)
  have q2 := hb ((wideS true l).length - 1) (by omega)
  unfold sumC stepsS
  rw [if_neg (show ¬ (false = true ∧ 1 < (wideS true l).length) by simp)]
  split
  · simp only [List.sum_append, List.sum_cons, List.sum_nil]
    have : df (g (wideS true l) ((wideS true l).length - 1)) (g (wideS true l) 0) ≤ g (srt l) (l.length - 1) - g (srt l) 0 := by unfold df; omega
    omega
  · omega
end Go.Proofs.Ytpfkioakjmpimaa

/- In another order, exchanged, or begun elsewhere: the walk. -/
namespace Go.Proofs.Ytpfkioakjmpimaa
open Go Go.Proofs.Ytpfkioakjmpimaa.AX
set_option linter.unusedVariables false
theorem row62_3 (H : AH) (x y z : AV) (hx : x.one = true) (hy : y.one = true) (hz : z.one = true) : rowV Try.prog 62 3 [(0, x), (1, y), (2, z)] H = some (some (.slice (some H.length) 0 3 0 1 false), H ++ [.row [x, y, z] 0 3 false]) := by
  have hc : ∀ {v : AV}, v.one = true → acells v = [v] := fun {v} h => by cases v <;> simp [AV.one] at h <;> rfl
  obtain ⟨e, I, h1, h2, h3, h4, hzz⟩ := elT_some el62
  have hu : ∀ {v : AV}, v.one = true → v.isU = false := fun {v} h => by cases v <;> simp_all [AV.one, AV.isU]
  simp [rowV, h1, h2, h3, aFill, hu hx, hu hy, hu hz, hc hx, hc hy, hc hz, hzz, List.range_succ]
/-- What a list has in common with the one that it came of. -/
structure Alike (r : Bool) (l : List Int) (i : Nat) (o : List Int) : Prop where
  ok : shE o = 0
  least : gr (rsS r o) = gr (rsS r l)
  most : sumC r (wideS r o) = sumC r (wideS r l)
  step : (i < 2 ∨ r = true) → stepC r o = stepC r l ∧ sumC r o = sumC r l
  box : i ≠ 1 → boxS r o = boxS r l ∧ wideS r o = wideS r l
theorem alike_perm {r : Bool} {l o : List Int} {i : Nat} (h0 : shE l = 0) (hp : o.Perm l) (hs : (i < 2 ∨ r = true) → (stepsS r o).Perm (stepsS r l)) : Alike r l i o where
  ok := by rw [shE_perm hp, h0]
  least := by rw [← least_is, ← least_is, Arr.best_perm hp]
  most := by unfold wideS; rw [Arr.best_perm hp]
  step h := ⟨gr_perm (hs h), sum_perm (hs h)⟩
  box _ := ⟨Arr.best_perm hp, Arr.best_perm hp⟩
theorem alike_60 {r : Bool} {l : List Int} (h0 : shE l = 0) : Alike r l 1 (lt60 l) where
  ok := lt60_ok h0
  least := by rw [← least_is, ← least_is]; exact best_60 (fun p => by unfold stepC; rw [steps_60]) l
  most := by
    have := best_60 (c := fun p => -sumC r p) (fun p => by unfold sumC; rw [steps_60]) l
    unfold wideS; omega
  step _ := ⟨by unfold stepC; rw [steps_60], by unfold sumC; rw [steps_60]⟩
  box h := absurd rfl h
set_option maxRecDepth 100000 in
set_option maxHeartbeats 1000000 in
theorem shadeTurned_ac (ws : List Int) (hw : By 8 ws) (r : Bool) (at' : Int) (hat : 0 ≤ at' ∧ at' < 256) (H : AH) : AC Try.prog 12 [.agg (ws.map (.int .u8)), .bool r, .int .u8 at'] H fun u _ => u = .bool true := by
  refine L_body 236 Try.func12 rfl rfl ?_
  refine L_reg [1, 2, 3] (fun K hK => ?_)
  simp [AV.isU, acells]
  apply hK; clear hK K
  have r0 : (H ++ [AObj.row (ws.map (AV.int .u8)) 0 0 false])[H.length]? = some (.row (ws.map (.int .u8)) 0 0 false) := by simp
  generalize H ++ [AObj.row (ws.map (AV.int .u8)) 0 0 false] = H1 at r0 ⊢
  generalize H.length = p at r0 ⊢
  have hld8 : ldn H1 p 0 8 0 = some (ws.map (.int .u8)) := by
    rw [ldn_row r0, List.drop_zero]
    have := takeKnown_one (vs := ws.map (AV.int .u8)) (by rw [List.all_eq_true]; intro x hx; obtain ⟨i, -, rfl⟩ := List.mem_map.1 hx; rfl)
    rw [List.length_map, hw.1] at this
    exact this
  refine L_reg [1, 2, 7] (fun K hK => ?_)
  simp [okFn_low, hld8]
  refine made_ac ws 7 hw (by decide) (by decide) H1 _ (fun v H2 hO hE => ?_)
  simp
  apply hK; clear hK K
  have h0 := trayS_ok hw (by decide : 0 < 7) (by decide)
  obtain ⟨b1, b2, b3⟩ := Bd.ok h0
  generalize trayS ws 7 = l at *
  have hv := hO.own.ls
  have hl := ls_len hv
  have hrem := rem_int hat.1 l.length
  have hk : at'.toNat % l.length < l.length := Nat.mod_lt _ (by omega)
  have hne : (l.length : Int) ≠ 0 := by omega
  have hne' : l.length ≠ 0 := by omega
  have hne2 : l ≠ [] := by intro e; rw [e] at b1; simp at b1
  generalize at'.toNat % l.length = k at *
  refine L_reg [1, 7, 8] (fun K hK => ?_)
  simp [hl, wrap_i64 (a := at') (by omega), hrem, hne', -Int.natCast_emod]
  apply hK; clear hK K
  obtain ⟨u1, hu1, hu2⟩ := ls_lo hv (by omega) (m := k) (by omega)
  obtain ⟨w1, hw1, hw2⟩ := ls_hi hv (by omega) (m := k) (by omega)
  obtain ⟨c1, H3, hO3, hE3, hC3⟩ := Clone_ex u1 (l.drop k) H2 (by simp; omega) hu2
  obtain ⟨c2, H4, p1, hO4, hE4⟩ := ownF_appendL (P := Try.prog) hE3 el22 el22 hO3 (hw2.ext hE3) (by simp; omega)
  refine L_regU mixed [false, false, false, false, false, false, true] [1, 7, 9] (by kernel_rfl) (fun K hK => ?_)
  simp [hu1, okFn_low]
  refine ⟨fun _ => .refl _, exX_mk (fun Q hQ => hC3 Q hQ) hE3 ?_⟩
  simp [p1, hw1]
  apply hK; clear hK K
  have hv4 := hv.ext hE4
  refine L_reg [1, 7, 9, 10] (fun K hK => ?_)
  simp [okFn_low]
  refine Clone_ac v l H4 _ (by omega) hv4 (fun c3 H5 hO5 hE5 => ?_)
  simp
  apply hK; clear hK K
  rcases hO5 with ⟨g1, -⟩ | ⟨ra, va, sa, g1, rfl, g3⟩
  · simp at g1; exact absurd g1 hne2
  rw [List.length_map]
  have hA : Rw ra va H5 l := ⟨sa, g3⟩
  refine L_reg [1, 7, 9, 10] (fun K hK => ?_)
  simp [okFn_low]
  refine ReverseA_ac ra va l H5 _ (by omega) hA (fun H6 hA6 hK6 => ?_)
  simp
  apply hK; clear hK K
  have hE46 : Ext H4 H6 := hK6.new hE5 (by omega)
  have hv6 := hv4.ext hE46
  have hb6 := (hO4.own.ls).ext hE46
  have hl := ls_len hv6
  refine L_reg [1, 7, 9, 10, 11] (fun K hK => ?_)
  simp
  apply hK; clear hK K
  refine L_reg [1, 7, 9, 10, 11, 57, 58, 59] (fun K hK => ?_)
  simp [hl]
  apply hK; clear hK K
  refine L_block (L_loopV [11, 59] (fun n vs H' => ∃ (i : Nat) (u : AV), n = l.length - i ∧ i ≤ l.length ∧ vs = [u, .int .i64 i] ∧ OwnF H6.length H' u (((lt60 l).take i).map (.int .i64)) ∧ Ext H6 H') _ [.slice none 0 0 0 1 false, .int .i64 0] rfl ⟨0, _, rfl, by omega, rfl, .nil _ _, .refl _⟩ ?_)
  rintro _ _ H7 ⟨i, u, rfl, hi, rfl, hO7, hE7⟩
  have hv7 := hv6.ext hE7
  have hll : (lt60 l).length = l.length := by simp [lt60]
  refine L_reg [1, 7, 9, 10, 11, 57, 58, 59, 60] (fun K hK => ?_)
  simp
  apply hK; clear hK K
  refine L_dec (i < l.length) (by simp) (fun hlt => ?_) (fun hge => L_exit ?_)
  · refine L_block ?_
    obtain ⟨rz, pz, vz, hix, hld⟩ := ls_ix hv7 hlt
    have bi := b3.g hlt
    obtain ⟨v', H8, happ, hO8, hE8⟩ := ownF_append (P := Try.prog) hE7 el22 el22 (x := .int .i64 (60 - g l i)) (m := 1) hO7 rfl (by simp; omega)
    refine L_reg [1, 7, 9, 10, 11, 13, 57, 58, 59] (fun K hK => ?_)
    simp [hix, hld]
    apply hK; clear hK K
    refine L_reg [1, 7, 9, 10, 11, 57, 58, 59] (fun K hK => ?_)
    simp [wrap_i64 (a := 60 - g l i) (by omega), happ]
    apply hK; clear hK K
    refine L_reg [1, 7, 9, 10, 11, 57, 58, 59] (fun K hK => ?_)
    simp [wrap_i64 (a := (i : Int) + 1) (by omega)]
    apply hK; clear hK K
    refine ⟨l.length - (i + 1), [v', .int .i64 (i + 1 : Nat)], by omega, by simp, i + 1, v', rfl, by omega, rfl, ?_, hE8⟩
    have : (lt60 l).take (i + 1) = (lt60 l).take i ++ [60 - g l i] := by
      rw [List.take_add_one]; congr 1
      unfold lt60
      rw [List.getElem?_map, List.getElem?_eq_getElem hlt, ← g_lt hlt]; rfl
    rw [this]
    simpa using hO8
  rw [List.take_of_length_le (by omega)] at hO7
  have hq7 := hO7.own.ls
  have hb7 := hb6.ext hE7
  have hA7 := (hA6.ext hE7).ls
  have ls := h0
  refine L_reg [1, 7, 9, 10, 11, 14, 15] (fun K hK => ?_)
  simp [okFn_low]
  refine Step_ac v l r _ _ (by omega) hv7 ?_
  simp [h0]
  apply hK; clear hK K
  refine L_reg [1, 7, 9, 10, 11, 14, 15, 16, 17] (fun K hK => ?_)
  simp [okFn_low]
  refine Sum_ac v l r _ _ (by omega) hv7 ?_
  simp [h0]
  apply hK; clear hK K
  refine L_reg [1, 7, 9, 10, 11, 14, 15, 16, 17, 18, 19] (fun K hK => ?_)
  simp [okFn_low]
  refine Least_ac v l r _ _ (by omega) hv7 ?_
  simp [h0]
  apply hK; clear hK K
  refine L_reg [1, 7, 9, 10, 11, 14, 15, 16, 17, 18, 19, 20, 21] (fun K hK => ?_)
  simp [okFn_low]
  refine Most_ac v l r _ _ (by omega) hv7 ?_
  simp [h0]
  apply hK; clear hK K
  refine L_reg [1, 7, 9, 10, 11, 14, 15, 16, 17, 18, 19, 20, 21, 22, 23] (fun K hK => ?_)
  simp [okFn_low]
  refine Box_ac v l r _ _ (by omega) hv7 (fun vb H8 hOb hE8 => ?_)
  simp [h0]
  apply hK; clear hK K
  refine L_reg [1, 9, 10, 11, 14, 15, 16, 17, 18, 19, 20, 21, 22, 23, 24, 25] (fun K hK => ?_)
  simp [okFn_low]
  refine Wide_ac v l r _ _ (by omega) (hv7.ext hE8) (fun vw H9 hOw hE9 => ?_)
  simp [h0]
  apply hK; clear hK K
  rw [h0] at hOb hOw
  have hE79 := hE8.trans hE9
  have hbx : Ls H9 vb (boxS r l) := hOb.own.ls.ext hE9
  have hwd : Ls H9 vw (wideS r l) := hOw.own.ls
  have x0 := hA7.ext hE79
  have x1 := hq7.ext hE79
  have x2 := hb7.ext hE79
  refine L_reg [1, 9, 10, 11, 14, 16, 18, 20, 22, 24, 126] (fun K hK => ?_)
  simp [pickV]
  apply hK; clear hK K
  refine L_false rfl ?_
  have one : ∀ {H : AH} {x : AV} {m : List Int}, Ls H x m → x.one = true := fun h => by obtain ⟨q0, q1, q2, q3, q4, rfl, -⟩ := h; rfl
  have o0 := one x0
  have o1 := one x1
  have o2 := one x2
  have a0 : Alike r l 0 l.reverse := alike_perm h0 (List.reverse_perm _) fun _ => steps_rev r l
  have a1 : Alike r l 1 (lt60 l) := alike_60 h0
  have a2 : Alike r l 2 (l.drop k ++ l.take k) := alike_perm h0 (List.perm_append_comm.trans (by rw [List.take_append_drop])) fun h => by
    obtain rfl : r = true := by rcases h with h | h; omega; exact h
    exact steps_rot hk
  rw [List.length_reverse] at *
  generalize AV.slice (some ra) 0 l.length va 1 false = z0 at *
  have hE10 : Ext H9 (H9 ++ [AObj.row [z0, u, c2] 0 3 false]) := .push _ _
  have hrow : (H9 ++ [AObj.row [z0, u, c2] 0 3 false])[H9.length]? = some (.row [z0, u, c2] 0 3 false) := by simp
  refine L_reg [1, 14, 16, 18, 20, 22, 24, 130, 131, 132] (fun K hK => ?_)
  simp [row62_3 H9 z0 u c2 o0 o1 o2]
  apply hK; clear hK K
  have hos : ∀ i, i < 3 → ∃ x o, Alike r l i o ∧ Ls H9 x o ∧ ∀ H', H'[H9.length]? = some (.row [z0, u, c2] 0 3 false) → ld H' H9.length i 0 = some x := by
    intro i hi
    obtain rfl | rfl | rfl : i = 0 ∨ i = 1 ∨ i = 2 := by omega
    · exact ⟨z0, _, a0, x0, fun H' h => by rw [ld_row h]; exact known_one o0⟩
    · exact ⟨u, _, a1, x1, fun H' h => by rw [ld_row h]; exact known_one o1⟩
    · exact ⟨c2, _, a2, x2, fun H' h => by rw [ld_row h]; exact known_one o2⟩
  generalize H9 ++ [AObj.row [z0, u, c2] 0 3 false] = H10 at *
  clear hO hO3 hO4 hO7 hOb hOw hA hA6 hA7 a0 a1 a2
  refine L_block (L_loopV [132] (fun n vs H' => ∃ (i : Nat), n = 3 - i ∧ i ≤ 3 ∧ vs = [.int .i64 i] ∧ Ext H10 H') _ [.int .i64 0] rfl ⟨0, rfl, by omega, rfl, .refl _⟩ ?_)
  rintro _ _ H11 ⟨i, rfl, hi, rfl, hE11⟩
  have hE911 := hE10.trans hE11
  refine L_reg [1, 14, 16, 18, 20, 22, 24, 130, 131, 132, 133] (fun K hK => ?_)
  simp
  apply hK; clear hK K
  refine L_dec (i < 3) (by simp; omega) (fun hlt => ?_) (fun hge => L_exit ?_)
  · refine L_block ?_
    obtain ⟨x, o, hal, hx, hld⟩ := hos i hlt
    have hld := hld H11 (hE11.row hrow)
    have hx := hx.ext hE911
    obtain ⟨k1, k2, k3⟩ := Bd.ok hal.ok
    have hok := hal.ok
    have hi3 : (i : Int) < 3 := by omega
    refine L_reg [1, 14, 16, 18, 20, 22, 24, 26, 27, 130, 131, 132] (fun K hK => ?_)
    simp [hi3, hld]
    apply hK; clear hK K
    refine L_reg [1, 14, 16, 18, 20, 22, 24, 26, 27, 28, 29, 130, 131, 132] (fun K hK => ?_)
    simp [okFn_low]
    refine Step_ac x o r _ _ (by omega) hx ?_
    simp [hok]
    apply hK; clear hK K
    refine L_reg [1, 14, 16, 18, 20, 22, 24, 26, 27, 28, 29, 30, 31, 130, 131, 132] (fun K hK => ?_)
    simp [okFn_low]
    refine Sum_ac x o r _ _ (by omega) hx ?_
    simp [hok]
    apply hK; clear hK K
    refine L_reg [1, 14, 16, 18, 20, 22, 24, 26, 27, 28, 29, 30, 31, 32, 33, 130, 131, 132] (fun K hK => ?_)
    simp [okFn_low]
    refine Least_ac x o r _ _ (by omega) hx ?_
    simp [hok, hal.least]
    apply hK; clear hK K
    refine L_reg [1, 14, 16, 18, 20, 22, 24, 26, 27, 28, 29, 30, 31, 32, 33, 34, 35, 130, 131, 132] (fun K hK => ?_)
    simp [okFn_low]
    refine Most_ac x o r _ _ (by omega) hx ?_
    simp [hok, hal.most]
    apply hK; clear hK K
    refine L_reg [1, 14, 16, 18, 20, 22, 24, 26, 27, 130, 131, 132, 201] (fun K hK => ?_)
    have hk1 : K [(1, .bool r), (14, .int .i64 (stepC r l)), (16, .int .i64 (sumC r l)), (18, .int .i64 (gr (rsS r l))), (20, .int .i64 (sumC r (wideS r l))), (22, vb), (24, vw), (26, .int .i64 i), (27, x), (130, .slice (some H9.length) 0 3 0 1 false), (131, .int .i64 3), (132, .int .i64 i), (201, .bool false)] H11 := by
      apply hK; clear hK K
      refine L_false rfl ?_
      by_cases c1 : i = 1
      · refine L_reg [1, 14, 16, 18, 20, 22, 24, 27, 130, 131, 132, 203] (fun K hK => ?_)
        simp
        apply hK; clear hK K
        refine L_true (by simp; omega) ?_
        refine L_exit ?_
        refine L_reg [1, 14, 16, 18, 20, 22, 24, 130, 131, 132] (fun K hK => ?_)
        simp [wrap_i64 (a := (i : Int) + 1) (by omega)]
        apply hK; clear hK K
        exact ⟨3 - (i + 1), [.int .i64 (i + 1 : Nat)], by omega, by simp, i + 1, rfl, by omega, rfl, hE11⟩
      · obtain ⟨e1, e2⟩ := hal.box c1
        have ci : (i : Int) ≠ 1 := by omega
        refine L_reg [1, 14, 16, 18, 20, 22, 24, 27, 130, 131, 132, 203] (fun K hK => ?_)
        simp
        apply hK; clear hK K
        refine L_false (by simp; exact ci) ?_
        refine L_reg [1, 14, 16, 18, 20, 22, 24, 27, 29, 36, 130, 131, 132] (fun K hK => ?_)
        simp [okFn_low]
        refine Box_ac x o r _ _ (by omega) hx (fun wb H12 hO12 hE12 => ?_)
        simp [hok]
        apply hK; clear hK K
        refine L_reg [1, 14, 16, 18, 20, 22, 24, 29, 31, 36, 37, 130, 131, 132] (fun K hK => ?_)
        simp [okFn_low]
        refine Wide_ac x o r _ _ (by omega) (hx.ext hE12) (fun ww H13 hO13 hE13 => ?_)
        simp [hok]
        apply hK; clear hK K
        rw [hok] at hO12 hO13
        have hb := hO12.own.ls.ext hE13
        have hw2 := hO13.own.ls
        have hE1013 := hE11.trans (hE12.trans hE13)
        have hE913 := hE10.trans hE1013
        have lb : (orNil 0 (boxS r o)).length ≤ 1048576 := by
          rw [orNil, if_pos rfl, (boxS_perm r o).length_eq]; omega
        have lw : (orNil 0 (wideS r o)).length ≤ 1048576 := by
          rw [orNil, if_pos rfl, (wideS_perm r o).length_eq]; omega
        have eb : orNil 0 (boxS r o) = boxS r l := by rw [orNil, if_pos rfl, e1]
        have ew : orNil 0 (wideS r o) = wideS r l := by rw [orNil, if_pos rfl, e2]
        refine L_reg [1, 14, 16, 18, 20, 22, 24, 130, 131, 132, 233] (fun K hK => ?_)
        simp [okFn_low, pickV]
        refine same_ac wb vb _ _ _ _ lb hb (hbx.ext hE913) ?_
        simp [okFn_low, eb, pickV]
        refine same_ac ww vw _ _ _ _ lw hw2 (hwd.ext hE913) ?_
        simp [ew, pickV]
        apply hK; clear hK K
        refine L_false rfl ?_
        refine L_reg [1, 14, 16, 18, 20, 22, 24, 130, 131, 132] (fun K hK => ?_)
        simp [wrap_i64 (a := (i : Int) + 1) (by omega)]
        apply hK; clear hK K
        exact ⟨3 - (i + 1), [.int .i64 (i + 1 : Nat)], by omega, by simp, i + 1, rfl, by omega, rfl, hE1013⟩
    by_cases c2 : i < 2
    · obtain ⟨e1, e2⟩ := hal.step (.inl c2)
      have ci : (i : Int) < 2 := by omega
      rw [e1, e2]
      simp [pickV, ci]
      exact hk1
    · have ci : ¬ (i : Int) < 2 := by omega
      cases r with
      | true =>
        obtain ⟨e1, e2⟩ := hal.step (.inr rfl)
        rw [e1, e2]
        simp [pickV, ci]
        exact hk1
      | false =>
        simp [pickV, ci]
        exact hk1
  · refine L_reg [6] (fun K hK => ?_)
    simp [okFn_low]
    refine works_ac _ _ ?_
    simp
    apply hK; clear hK K
    exact L_ret ⟨.inr rfl, _, rfl, rfl⟩
end Go.Proofs.Ytpfkioakjmpimaa

/- The greatest sums: the walk. -/
namespace Go.Proofs.Ytpfkioakjmpimaa
open Go Go.Proofs.Ytpfkioakjmpimaa.AX
set_option linter.unusedVariables false
theorem row57_2 (H : AH) (x y : Bool) : rowV Try.prog 57 2 [(0, .bool x), (1, .bool y)] H = some (some (.slice (some H.length) 0 2 0 1 false), H ++ [.row [.bool x, .bool y] 0 2 false]) := by
  obtain ⟨e, I, h1, h2, h3, h4, hzz⟩ := elT_some el57
  simp [rowV, h1, h2, h3, aFill, AV.isU, acells, hzz, List.range_succ]
set_option maxRecDepth 100000 in
set_option maxHeartbeats 2000000 in
theorem shadeWidest_ac (ws : List Int) (hw : By 8 ws) (H : AH) : AC Try.prog 9 [.agg (ws.map (.int .u8))] H fun u _ => u = .bool true := by
  refine L_body 119 Try.func9 rfl rfl ?_
  refine L_reg [1] (fun K hK => ?_)
  simp [AV.isU, acells]
  apply hK; clear hK K
  have r0 : (H ++ [AObj.row (ws.map (AV.int .u8)) 0 0 false])[H.length]? = some (.row (ws.map (.int .u8)) 0 0 false) := by simp
  generalize H ++ [AObj.row (ws.map (AV.int .u8)) 0 0 false] = H1 at r0 ⊢
  generalize H.length = p at r0 ⊢
  have hld8 : ldn H1 p 0 8 0 = some (ws.map (.int .u8)) := by
    rw [ldn_row r0, List.drop_zero]
    have := takeKnown_one (vs := ws.map (AV.int .u8)) (by rw [List.all_eq_true]; intro x hx; obtain ⟨i, -, rfl⟩ := List.mem_map.1 hx; rfl)
    rw [List.length_map, hw.1] at this
    exact this
  refine L_reg [3] (fun K hK => ?_)
  simp [okFn_low, hld8]
  refine made_ac ws 6 hw (by decide) (by decide) H1 _ (fun v H2 hO hE => ?_)
  simp
  apply hK; clear hK K
  have h0 := trayS_ok hw (by decide : 0 < 6) (by decide)
  have hl6 : (trayS ws 6).length ≤ 6 := by rw [trayS_len]; exact (trayN_le (by decide)).2
  obtain ⟨b1, b2, b3⟩ := Bd.ok h0
  obtain ⟨-, -, b4⟩ := shE_ok h0
  generalize trayS ws 6 = l at *
  have hv := hO.own.ls
  have hone : v.one = true := by obtain ⟨_, _, _, _, _, rfl, -⟩ := hv; rfl
  refine L_reg [3, 4] (fun K hK => ?_)
  simp [okFn_low]
  refine values_ac v hone _ _ ?_
  simp [okFn_low]
  refine Sorted_ac l v H2.length _ _ b1 (by omega) (by simp) (hv.ext (.push _ _)) (fun u H3 m hp hs hO3 hE3 => ?_)
  simp
  apply hK; clear hK K
  obtain rfl := srt_eq hp hs
  have hsl := srt_len l
  have hE23 : Ext H2 H3 := (Ext.push _ _).trans hE3
  have hu := hO3.own.ls
  have hv3 := hv.ext hE23
  have hrv : ∀ j, rowOf v = some j → j < H3.length := fun j hj => by have := (ownF_rowlt hO hj).2; have := hE23.1; omega
  have hru : ∀ j, rowOf u = some j → j < H3.length := fun j hj => (ownF_rowlt hO3 hj).2
  have hl := ls_len hv3
  have hul := ls_len hu
  rw [hsl] at hul
  have hbs := b3.perm (srt_perm l)
  have hns : ∀ x ∈ srt l, 0 ≤ x ∧ x ≤ 60 := fun x hx => b4 x ((srt_perm l).mem_iff.1 hx)
  have hns2 : ∀ x ∈ srt l, 0 ≤ x ∧ x ≤ 1000 := fun x hx => by have := hns x hx; omega
  have hasc := asc_of (srt_sorted l)
  have m1 := most_round b1 hl6
  have m2 := straight_le l
  have m3 := straight_ge b1
  clear hO hO3
  refine L_reg [3, 4, 5] (fun K hK => ?_)
  simp
  apply hK; clear hK K
  have hq : IntKind.i64.wrap ((l.length : Int) / 2) = ((l.length / 2 : Nat) : Int) := by rw [wrap_i64 (by omega)]; omega
  generalize hn2 : l.length / 2 = n2 at *
  refine L_reg [3, 4, 5, 23, 24] (fun K hK => ?_)
  simp [hl, hq]
  apply hK; clear hK K
  have hhalf : ∀ i, i ≤ n2 → 0 ≤ half (srt l) i ∧ half (srt l) i ≤ 60 * i := fun i hi => by
    induction i with
    | zero => simp [half, sumN]
    | succ i ih =>
      have := ih (by omega)
      have h2 := hns _ (gmem (show i < (srt l).length by omega))
      have h3 := hns _ (gmem (show (srt l).length - 1 - i < (srt l).length by omega))
      have h4 := hasc i ((srt l).length - 1 - i) (by omega) (by omega)
      have e : half (srt l) (i + 1) = half (srt l) i + (g (srt l) ((srt l).length - 1 - i) - g (srt l) i) := rfl
      rw [e]; omega
  refine L_block (L_loopV [5, 24] (fun n vs H' => ∃ (i : Nat), n = n2 - i ∧ i ≤ n2 ∧ vs = [.int .i64 (half (srt l) i), .int .i64 i] ∧ H3 = H') _ [.int .i64 0, .int .i64 0] rfl ⟨0, rfl, by omega, rfl, rfl⟩ ?_)
  rintro _ _ _ ⟨i, rfl, hi, rfl, rfl⟩
  refine L_reg [3, 4, 5, 23, 24, 25] (fun K hK => ?_)
  simp
  apply hK; clear hK K
  refine L_dec (i < n2) (by simp) (fun hlt => ?_) (fun hge => L_exit ?_)
  · refine L_block ?_
    refine L_reg [3, 4, 5, 6, 23, 24] (fun K hK => ?_)
    simp
    apply hK; clear hK K
    obtain ⟨rz, pz, vz, hix, hld⟩ := ls_ix hu (i := i) (by omega)
    obtain ⟨ry, py, vy, hiy, hldy⟩ := ls_ix hu (i := l.length - 1 - i) (by omega)
    have ei : IntKind.i64.wrap (IntKind.i64.wrap ((l.length : Int) - 1) - i) = ((l.length - 1 - i : Nat) : Int) := by rw [wrap_i64 (a := (l.length : Int) - 1) (by omega), wrap_i64 (by omega)]; omega
    have h2 := hns _ (gmem (show i < (srt l).length by omega))
    have h3 := hns _ (gmem (show l.length - 1 - i < (srt l).length by omega))
    have h5 := hhalf i hi
    have e : half (srt l) (i + 1) = half (srt l) i + (g (srt l) (l.length - 1 - i) - g (srt l) i) := by
      have : half (srt l) (i + 1) = half (srt l) i + (g (srt l) ((srt l).length - 1 - i) - g (srt l) i) := rfl
      rw [this, hsl]
    refine L_regT mixed [3, 4, 5, 23, 24] (by kernel_rfl) (fun K hK => ?_)
    simp [hl, ei, hix, hld, hiy, hldy, wrap_i64 (a := g (srt l) (l.length - 1 - i) - g (srt l) i) (by omega), wrap_i64 (a := half (srt l) i + (g (srt l) (l.length - 1 - i) - g (srt l) i)) (by omega)]
    apply hK; clear hK K
    refine L_reg [3, 4, 5, 23, 24] (fun K hK => ?_)
    simp [wrap_i64 (a := (i : Int) + 1) (by omega)]
    apply hK; clear hK K
    exact ⟨n2 - (i + 1), [.int .i64 (half (srt l) (i + 1)), .int .i64 (i + 1 : Nat)], by omega, by simp [e], i + 1, rfl, by omega, rfl, rfl⟩
  obtain rfl : i = n2 := by omega
  refine L_reg [3, 4, 5, 7] (fun K hK => ?_)
  simp [alloc_z zt56]
  apply hK; clear hK K
  refine L_reg [3, 4, 5, 7, 43, 44, 45] (fun K hK => ?_)
  simp [row57_2]
  apply hK; clear hK K
  have hE4 : Ext H3 (H3 ++ [AObj.row [.int .i64 0, .int .i64 0] 0 0 false, AObj.row [.bool false, .bool true] 0 2 false]) := .push _ _
  have ra : (H3 ++ [AObj.row [.int .i64 0, .int .i64 0] 0 0 false, AObj.row [.bool false, .bool true] 0 2 false])[H3.length]? = some (AObj.row [.int .i64 0, .int .i64 0] 0 0 false) := by simp
  have rb : (H3 ++ [AObj.row [.int .i64 0, .int .i64 0] 0 0 false, AObj.row [.bool false, .bool true] 0 2 false])[H3.length + 1]? = some (AObj.row [.bool false, .bool true] 0 2 false) := by simp
  have hv4 := hv3.ext hE4
  have hu4 := hu.ext hE4
  have hN4 : H3.length + 2 = (H3 ++ [AObj.row [.int .i64 0, .int .i64 0] 0 0 false, AObj.row [.bool false, .bool true] 0 2 false]).length := by simp
  generalize hpa : H3.length = pa at *
  have rbl : pa + 1 < (H3 ++ [AObj.row [.int .i64 0, .int .i64 0] 0 0 false, AObj.row [.bool false, .bool true] 0 2 false]).length := by omega
  generalize H3 ++ [AObj.row [.int .i64 0, .int .i64 0] 0 0 false, AObj.row [.bool false, .bool true] 0 2 false] = H4 at *
  generalize hM0 : sumC false (wideS false l) = M0 at *
  generalize hM1 : sumC true (wideS true l) = M1 at *
  have hMb : ∀ k : Bool, 0 ≤ sumC k (wideS k l) ∧ sumC k (wideS k l) ≤ 1000000 := by
    have q := hhalf i (Nat.le_refl _)
    have z : ∀ k : Bool, 0 ≤ sumC k (wideS k l) := fun k => by
      rw [show sumC k (wideS k l) = (stepsS k (wideS k l)).sum from rfl, sum_N]
      have := sumN_le (f := fun _ => 0) (h := g (stepsS k (wideS k l))) (n := (stepsS k (wideS k l)).length) fun j hj => by
        have hm := gmem hj
        rcases List.mem_append.1 hm with hy | hy
        · obtain ⟨i', -, e⟩ := mem_stp.1 hy
          rw [← e]; exact df_nn _ _
        · split at hy
          · rw [List.mem_singleton.1 hy]; exact df_nn _ _
          · cases hy
      have zz : ∀ n, sumN (fun _ => 0) n = 0 := fun n => by induction n with
        | zero => rfl
        | succ n ih => simp only [sumN, ih]; rfl
      rw [zz] at this; exact this
    intro k
    refine ⟨z k, ?_⟩
    cases k with
    | false => rw [hM0]; omega
    | true => rw [hM1]; omega
  refine L_block (L_loopV [45] (fun n vs H' => ∃ (k : Nat), n = 2 - k ∧ k ≤ 2 ∧ vs = [.int .i64 k] ∧ (∃ m, H'[pa]? = some (AObj.row [.int .i64 (if 0 < k then M0 else 0), .int .i64 (if 1 < k then M1 else 0)] 0 m false)) ∧ KeepX pa H4 H') _ [.int .i64 0] rfl ⟨0, rfl, by omega, rfl, ⟨0, ra⟩, .refl _ _⟩ ?_)
  rintro _ _ H5 ⟨k, rfl, hk, rfl, ⟨ma, ra5⟩, hK5⟩
  have hv5 : Ls H5 v l := ls_keep hv4 fun j h1 h2 => hK5.2 j (by have := hrv j h2; omega) h1
  have hu5 : Ls H5 u (srt l) := ls_keep hu4 fun j h1 h2 => hK5.2 j (by have := hru j h2; omega) h1
  have rb5 : H5[pa + 1]? = some (AObj.row [.bool false, .bool true] 0 2 false) := hK5.row (by omega) rb
  refine L_reg [3, 4, 5, 7, 43, 44, 45, 46] (fun K hK => ?_)
  simp
  apply hK; clear hK K
  refine L_dec (k < 2) (by simp; omega) (fun hlt => ?_) (fun hge => L_exit ?_)
  · refine L_block ?_
    generalize hr : decide (k = 1) = r
    have lb5 : ld H5 (pa + 1) k 0 = some (.bool r) := by
      rw [ld_row rb5]
      obtain rfl | rfl : k = 0 ∨ k = 1 := by omega
      · rw [← hr]; rfl
      · rw [← hr]; rfl
    have hk2 : (k : Int) < 2 := by omega
    have hs4 := store_last (P := Try.prog) (H := H5) (u := 4) (c := [.bool false]) (p := 0) (v := 0) (s := 0) sc4 (x := .bool r) (y := .bool false) rfl rfl
    have hs3 := store_last (P := Try.prog) (H := H5 ++ [AObj.row [.bool r] 0 0 false]) (u := 3) (c := [.int .i64 0]) (p := 0) (v := 0) (s := 0) sc3 (x := .int .i64 (-1)) (y := .int .i64 0) rfl rfl
    simp at hs4 hs3
    refine L_reg [3, 4, 5, 7, 8, 9, 43, 44, 45] (fun K hK => ?_)
    simp [alloc_z zt4, hk2, lb5, hs4]
    apply hK; clear hK K
    obtain ⟨I3, hI3, hz3⟩ := zeroT_some zt3
    refine L_reg [3, 4, 5, 7, 8, 9, 10, 43, 44, 45] (fun K hK => ?_)
    simp [hI3, hz3, hs3]
    apply hK; clear hK K
    refine L_reg [3, 4, 5, 7, 8, 9, 10, 11, 43, 44, 45] (fun K hK => ?_)
    suffices hk : K [(3, v), (4, u), (5, .int .i64 (half (srt l) i)), (7, .ptr pa 0 0), (8, .int .i64 k), (9, .ptr H5.length 0 0), (10, .ptr (H5.length + 1) 0 0), (11, .ptr (H5.length + 2) 0 0), (43, .slice (some (pa + 1)) 0 2 0 1 false), (44, .int .i64 2), (45, .int .i64 k)] (H5 ++ [AObj.row [.bool r] 0 0 false, AObj.row [.int .i64 (-1)] 0 0 false, AObj.row [.slice none 0 0 0 1 false] 0 0 false]) by
      simp; exact hk
    apply hK; clear hK K
    have hE6 : Ext H5 (H5 ++ [AObj.row [.bool r] 0 0 false, AObj.row [.int .i64 (-1)] 0 0 false, AObj.row [.slice none 0 0 0 1 false] 0 0 false]) := .push _ _
    have hCel : Cel H5.length (H5.length + 1) (H5.length + 2) r (fun x => -x) (1, []) (H5 ++ [AObj.row [.bool r] 0 0 false, AObj.row [.int .i64 (-1)] 0 0 false, AObj.row [.slice none 0 0 0 1 false] 0 0 false]) := ⟨⟨0, by simp⟩, ⟨0, by simp⟩, ⟨.slice none 0 0 0 1 false, 0, by simp, .nil _, fun j hj => by simp [rowOf] at hj⟩⟩
    have hN6 : H5.length + 3 ≤ (H5 ++ [AObj.row [.bool r] 0 0 false, AObj.row [.int .i64 (-1)] 0 0 false, AObj.row [.slice none 0 0 0 1 false] 0 0 false]).length := by simp
    have h45 := hK5.1
    generalize hpl : H5.length = pl at *
    generalize H5 ++ [AObj.row [.bool r] 0 0 false, AObj.row [.int .i64 (-1)] 0 0 false, AObj.row [.slice none 0 0 0 1 false] 0 0 false] = H6 at *
    have hV := vis54 (s := srt l) hbs (by omega) (pr := pl) (pl := pl + 1) (pf := pl + 2) (N := pl + 3) (r := r) (by omega) (by omega) (by omega) (by omega) (by omega)
    have hok54 : okFn Try.prog 54 = true := by kernel_rfl
    have hnW : ∀ {y : AV}, (∀ j, rowOf y = some j → j < pa) → ∀ j, rowOf y = some j → ¬ Wc (pl + 1) (pl + 2) j := fun h j hj hw => by have := h j hj; rcases hw with e | e <;> omega
    refine L_reg [3, 4, 5, 7, 8, 9, 10, 11, 43, 44, 45] (fun K hK => ?_)
    simp [okFn_low]
    refine all_ac hV hasc hns2 (by omega) u (1, []) H6 _ (hu5.ext hE6) (hnW hru) hN6 hCel (fun H7 hS7 hK7 => ?_)
    simp
    apply hK; clear hK K
    rw [en_first hasc (c := fun p => -sumC r p) (fun q hq => by
      have hq2 : 0 ≤ sumC r q := by
        rw [show sumC r q = (stepsS r q).sum from rfl, sum_N]
        have := sumN_le (f := fun _ => 0) (h := g (stepsS r q)) (n := (stepsS r q).length) fun j hj => by
          have hm := gmem hj
          rcases List.mem_append.1 hm with hy | hy
          · obtain ⟨i', -, e⟩ := mem_stp.1 hy
            rw [← e]; exact df_nn _ _
          · split at hy
            · rw [List.mem_singleton.1 hy]; exact df_nn _ _
            · cases hy
        have zz : ∀ n, sumN (fun _ => 0) n = 0 := fun n => by induction n with
          | zero => rfl
          | succ n ih => simp only [sumN, ih]; rfl
        rw [zz] at this; exact this
      omega)] at hS7
    rw [Arr.best_perm (srt_perm l)] at hS7
    have hv7 := hK7.ls (hv5.ext hE6) (hnW hrv)
    obtain ⟨m5, r5⟩ := hS7.r
    obtain ⟨m6, r6⟩ := hS7.l
    obtain ⟨wf, m7, r7, hwf, -⟩ := hS7.f
    have l5 : ld H7 pl 0 0 = some (.bool r) := by rw [ld_row r5]; rfl
    refine L_reg [3, 4, 5, 7, 8, 9, 10, 11, 12, 13, 43, 44, 45] (fun K hK => ?_)
    simp [okFn_low, l5]
    refine Most_ac v l r _ _ (by omega) hv7 ?_
    simp [h0]
    apply hK; clear hK K
    refine L_reg [3, 4, 5, 7, 8, 10, 11, 12, 13, 14, 15, 43, 44, 45] (fun K hK => ?_)
    simp [okFn_low, l5]
    refine Wide_ac v l r _ _ (by omega) hv7 (fun wb H8 hO8 hE8 => ?_)
    simp [h0]
    apply hK; clear hK K
    rw [h0] at hO8
    have l7 : ld H8 (pl + 1) 0 0 = some (.int .i64 (sumC r (wideS r l))) := by
      rw [ld_row (hE8.row r6)]
      show some (AV.int .i64 (- -sumC r (Arr.bestS (fun p => -sumC r p) l))) = _
      rw [Int.neg_neg]; rfl
    have of : wf.one = true := by obtain ⟨_, _, _, _, _, rfl, -⟩ := hwf; rfl
    have l8 : ld H8 (pl + 2) 0 0 = some wf := by rw [ld_row (hE8.row r7)]; exact known_one of
    have lb : (orNil 0 (wideS r l)).length ≤ 1048576 := by rw [orNil, if_pos rfl, (wideS_perm r l).length_eq]; omega
    have eb : orNil 0 (wideS r l) = Arr.bestS (fun p => -sumC r p) l := by rw [orNil, if_pos rfl]; rfl
    refine L_reg [3, 4, 5, 7, 8, 12, 43, 44, 45, 81] (fun K hK => ?_)
    simp [okFn_low, pickV, l7, l8]
    refine same_ac wb wf _ _ _ _ lb hO8.own.ls (hwf.ext hE8) ?_
    simp [eb, pickV]
    apply hK; clear hK K
    refine L_false rfl ?_
    have ra8 : H8[pa]? = some (AObj.row [.int .i64 (if 0 < k then M0 else 0), .int .i64 (if 1 < k then M1 else 0)] 0 ma false) := hE8.row (hK7.row (fun hw => by rcases hw with e | e <;> omega) (hE6.row ra5))
    have hK8 : KeepX pa H4 H8 := ⟨by have := hE6.1; have := hK7.1; have := hE8.1; omega, fun j h1 h2 => by
      rw [hE8.2 j (by have := hE6.1; have := hK7.1; omega), hK7.2 j (by have := hE6.1; omega) (fun hw => by rcases hw with e | e <;> omega), hE6.2 j (by omega), hK5.2 j h1 h2]⟩
    generalize hme : sumC r (wideS r l) = me at *
    have hst : ∃ mb H9, storeV Try.prog 3 H8 (.ptr pa k 0) (.int .i64 me) = some (none, H9) ∧ H9[pa]? = some (AObj.row [.int .i64 (if 0 < k + 1 then M0 else 0), .int .i64 (if 1 < k + 1 then M1 else 0)] 0 mb false) ∧ KeepX pa H4 H9 := by
      obtain rfl | rfl : k = 0 ∨ k = 1 := by omega
      · have e0 : me = M0 := by rw [← hme, ← hM0, ← hr]; rfl
        have e1 := store_row (P := Try.prog) sc3 (r := pa) (x := .int .i64 me) (p := 0) rfl ra8 rfl
        exact ⟨_, _, e1, by rw [get_set ra8]; simp [e0]; rfl, hK8.set _⟩
      · have e0 : me = M1 := by rw [← hme, ← hM1, ← hr]; rfl
        have e1 := store_row (P := Try.prog) sc3 (r := pa) (x := .int .i64 me) (p := 1) rfl ra8 rfl
        exact ⟨_, _, e1, by rw [get_set ra8]; simp [e0]; rfl, hK8.set _⟩
    obtain ⟨mb, H9, e1, e2, e3⟩ := hst
    refine L_reg [3, 4, 5, 7, 43, 44, 45] (fun K hK => ?_)
    simp [hk2, e1]
    apply hK; clear hK K
    refine L_reg [3, 4, 5, 7, 43, 44, 45] (fun K hK => ?_)
    simp [wrap_i64 (a := (k : Int) + 1) (by omega)]
    apply hK; clear hK K
    exact ⟨2 - (k + 1), [.int .i64 (k + 1 : Nat)], by omega, by simp, k + 1, rfl, by omega, rfl, ⟨mb, e2⟩, e3⟩
  · obtain rfl : k = 2 := by omega
    have y0 : ld H5 pa 0 0 = some (.int .i64 M0) := by rw [ld_row ra5]; rfl
    have y1 : ld H5 pa 1 0 = some (.int .i64 M1) := by rw [ld_row ra5]; rfl
    have z0 := hMb false
    have z1 := hMb true
    rw [hM0] at z0
    rw [hM1] at z1
    have hl5 := ls_len hv5
    obtain ⟨rz, pz, vz, hix, hld⟩ := ls_ix hu5 (i := 0) (by omega)
    obtain ⟨ry, py, vy, hiy, hldy⟩ := ls_ix hu5 (i := l.length - 1) (by omega)
    have hix0 : aIndexAddr Try.prog 22 u (.int .i64 0) = some (.ptr rz pz vz) := hix .i64
    have el : IntKind.i64.wrap ((l.length : Int) - 1) = ((l.length - 1 : Nat) : Int) := by rw [wrap_i64 (by omega)]; omega
    have h2 := hns _ (gmem (show 0 < (srt l).length by omega))
    have h3 := hns _ (gmem (show l.length - 1 < (srt l).length by omega))
    have hh := hhalf i (Nat.le_refl _)
    have c1 : M0 ≤ M1 := by omega
    have c2 : M1 - (g (srt l) (l.length - 1) - g (srt l) 0) ≤ M0 := by omega
    have w1 : IntKind.i64.wrap (2 * half (srt l) i) = M1 := by rw [wrap_i64 (by omega)]; omega
    have w2 : IntKind.i64.wrap (g (srt l) (l.length - 1) - g (srt l) 0) = g (srt l) (l.length - 1) - g (srt l) 0 := wrap_i64 (by omega)
    have w3 : IntKind.i64.wrap (M1 - (g (srt l) (l.length - 1) - g (srt l) 0)) = M1 - (g (srt l) (l.length - 1) - g (srt l) 0) := wrap_i64 (by omega)
    refine L_regQ mixed [2] (by kernel_rfl) (fun K hK => ?_)
    simp [okFn_low, y0, y1, pickV, hl5, hix0, hld, hiy, hldy, el, w1, w2, w3, c1, c2]
    refine exQ_mk (fun Q hQ => works_ac _ Q hQ) ?_
    simp [pickV]
    apply hK; clear hK K
    exact L_ret ⟨.inr rfl, _, rfl, rfl⟩
end Go.Proofs.Ytpfkioakjmpimaa

/- Bytes that came. -/
namespace Go.Proofs.Ytpfkioakjmpimaa
open Go Go.Proofs.Ytpfkioakjmpimaa.AX

theorem u8_of {a : Int} (h : (Lit.int .u8 a).wf = true) : ∃ n : Nat, a = n ∧ n < 256 := by
  have h1 : 0 ≤ a ∧ a ≤ 255 := by
    simp [Lit.wf, IntKind.min, IntKind.max, IntKind.bits, IntKind.signed] at h
    omega
  exact ⟨a.toNat, by omega, by omega⟩
theorem u8_in {a : Int} (h : (Lit.int .u8 a).wf = true) : 0 ≤ a ∧ a < 256 := by
  obtain ⟨n, rfl, hn⟩ := u8_of h
  omega
theorem by_ok {l : List Int} (b : ∀ x ∈ l, IntKind.u8.min ≤ x ∧ x ≤ IntKind.u8.max) : ∀ x ∈ l, 0 ≤ x ∧ x < 256 := fun x hx => by
  have h := b x hx
  have e1 : IntKind.u8.min = 0 := rfl
  have e2 : IntKind.u8.max = 255 := rfl
  omega
end Go.Proofs.Ytpfkioakjmpimaa
