/- Sets as numbers: their places, how many, what is left. Pure. -/
import Derived.Test.YtbimapbcpmeooaaCanM
namespace Go.Proofs.Ytbimapbcpmeooaa.Cl
set_option linter.unusedVariables false
/-- The places 0 to m - 1 of a set. -/
def bt : Nat → Nat → List Bool
  | 0, _ => []
  | m + 1, s => decide (s % 2 = 1) :: bt m (s / 2)
theorem bt_len : ∀ (m s : Nat), (bt m s).length = m
  | 0, s => rfl
  | m + 1, s => by simp [bt, bt_len m]
theorem bt_get : ∀ (m s i : Nat), i < m → (bt m s).getD i false = decide (s / 2 ^ i % 2 = 1)
  | 0, s, i, h => by omega
  | m + 1, s, 0, h => by simp [bt]
  | m + 1, s, i + 1, h => by
    have := bt_get m (s / 2) i (by omega)
    rw [bt, List.getD_cons_succ, this, Nat.div_div_eq_div_mul, Nat.pow_succ, Nat.mul_comm]
theorem bt_zero : ∀ m, tr (bt m 0) = 0
  | 0 => rfl
  | m + 1 => by
    have := bt_zero m
    unfold tr at *
    simp [bt, this]
theorem wt_zero (a : Nat) : ∀ (b : Nat) (S : List Bool), tr S = 0 → wt a b S = []
  | b, [], _ => rfl
  | b, true :: S, h => by simp [tr] at h
  | b, false :: S, h => wt_zero a (b + 1) S (by simpa [tr] using h)
theorem bt_inj : ∀ (m s t : Nat), s < 2 ^ m → t < 2 ^ m → bt m s = bt m t → s = t
  | 0, s, t, hs, ht, _ => by simp at hs ht; omega
  | m + 1, s, t, hs, ht, h => by
    rw [Nat.pow_succ] at hs ht
    simp only [bt, List.cons.injEq] at h
    have h1 := bt_inj m (s / 2) (t / 2) (by omega) (by omega) h.2
    have h2 : (s % 2 = 1) = (t % 2 = 1) := by simpa using h.1
    have h3 : s % 2 = 1 ↔ t % 2 = 1 := by rw [h2]
    omega
theorem bt_surj : ∀ (m : Nat) (S : List Bool), S.length = m → ∃ s, s < 2 ^ m ∧ bt m s = S
  | 0, [], _ => ⟨0, by simp, rfl⟩
  | 0, _ :: _, h => by simp at h
  | m + 1, [], h => by simp at h
  | m + 1, b :: S, h => by
    obtain ⟨s, h1, h2⟩ := bt_surj m S (by simpa using h)
    refine ⟨2 * s + (if b then 1 else 0), ?_, ?_⟩
    · rw [Nat.pow_succ]; split <;> omega
    · rw [bt]
      have e1 : (2 * s + (if b then 1 else 0)) / 2 = s := by split <;> omega
      rw [e1, h2]
      congr 1
      cases b <;> simp <;> omega
/-- Nobody sits who has no table left. -/
def vld : List Bool → List Nat → Bool
  | true :: S, y :: l => decide (0 < y) && vld S l
  | false :: S, _ :: l => vld S l
  | _, _ => true
theorem vld_iff : ∀ {S : List Bool} {l : List Nat}, S.length = l.length → (vld S l = true ↔ ∀ i (h : i < S.length) (h' : i < l.length), S[i] = true → 0 < l[i])
  | [], [], _ => by simp [vld]
  | [], _ :: _, h => by simp at h
  | _ :: _, [], h => by simp at h
  | true :: S, y :: l, h => by
    rw [vld, Bool.and_eq_true, decide_eq_true_eq, vld_iff (S := S) (l := l) (by simpa using h)]
    constructor
    · rintro ⟨h1, h2⟩ i hi hi' hS
      cases i with
      | zero => exact h1
      | succ i => simp only [List.getElem_cons_succ] at hS ⊢; exact h2 i (by simpa using hi) (by simpa using hi') hS
    · intro h1
      refine ⟨h1 0 (by simp) (by simp) rfl, fun i hi hi' hS => ?_⟩
      have := h1 (i + 1) (by simpa using hi) (by simpa using hi') (by simpa using hS)
      simpa using this
  | false :: S, y :: l, h => by
    rw [vld, vld_iff (S := S) (l := l) (by simpa using h)]
    constructor
    · intro h2 i hi hi' hS
      cases i with
      | zero => cases hS
      | succ i => simp only [List.getElem_cons_succ] at hS ⊢; exact h2 i (by simpa using hi) (by simpa using hi') hS
    · intro h1 i hi hi' hS
      have := h1 (i + 1) (by simpa using hi) (by simpa using hi') (by simpa using hS)
      simpa using this
theorem mem_ss_bt {x : Nat} {l : List Nat} {s : Nat} : bt l.length s ∈ ss x l ↔ tr (bt l.length s) = x ∧ vld (bt l.length s) l = true := by
  rw [mem_ss, vld_iff (bt_len _ _)]
  exact ⟨fun h => h.2, fun h => ⟨bt_len _ _, h⟩⟩
theorem sm_two (g : Nat → Nat) : ∀ n, sm (2 * n) g = sm n fun t => g (2 * t) + g (2 * t + 1)
  | 0 => rfl
  | n + 1 => by
    rw [show 2 * (n + 1) = 2 * n + 1 + 1 by omega, sm, sm, sm_two g n, sm]; omega
/-- The sum over all sets, by their numbers. -/
theorem subs_sum : ∀ (l : List Nat) (f : Nat → List Nat → Nat), subs l f = sm (2 ^ l.length) fun s => if vld (bt l.length s) l = true then f (tr (bt l.length s)) (tk (bt l.length s) l) else 0
  | [], f => by simp [subs, sm, vld, bt, tr, tk]
  | y :: l, f => by
    rw [subs, subs_sum l, subs_sum l, List.length_cons, Nat.pow_succ, Nat.mul_comm, sm_two, sm_add]
    congr 1
    · refine sm_congr fun t ht => ?_
      have e1 : 2 * t % 2 = 0 := by omega
      have e2 : 2 * t / 2 = t := by omega
      simp [bt, e1, e2, vld, tk, tr]
    · by_cases c : 0 < y
      · rw [if_pos c]
        refine sm_congr fun t ht => ?_
        have e1 : (2 * t + 1) % 2 = 1 := by omega
        have e2 : (2 * t + 1) / 2 = t := by omega
        simp [bt, e1, e2, vld, tk, tr, c]
      · rw [if_neg c]
        have : (fun t => if vld (bt (l.length + 1) (2 * t + 1)) (y :: l) = true then f (tr (bt (l.length + 1) (2 * t + 1))) (tk (bt (l.length + 1) (2 * t + 1)) (y :: l)) else 0) = fun _ => 0 := by
          funext t
          have e1 : (2 * t + 1) % 2 = 1 := by omega
          simp [bt, e1, vld, c]
        rw [this, sm_zero]
theorem sm_mono (f : Nat → Nat) {a b : Nat} (h : a ≤ b) : sm a f ≤ sm b f := by
  induction b with
  | zero =>
    obtain rfl : a = 0 := by omega
    exact Nat.le_refl _
  | succ b ih =>
    rcases Nat.lt_or_eq_of_le h with h | rfl
    · have := ih (by omega)
      rw [sm]; omega
    · exact Nat.le_refl _
/-- The part of the count that belongs to a set. -/
def prt (x : Nat) (l : List Nat) (s : Nat) : Nat := if tr (bt l.length s) = x ∧ vld (bt l.length s) l = true then cnt l.length (tk (bt l.length s) l) else 0
theorem cnt_sum (x : Nat) (l : List Nat) : cnt (x :: l).length (x :: l) = sm (2 ^ l.length) (prt x l) := by
  rw [List.length_cons, cnt, subs_sum]
  refine sm_congr fun s _ => ?_
  unfold prt
  by_cases c : vld (bt l.length s) l = true <;> by_cases d : tr (bt l.length s) = x <;> simp [c, d]
theorem ltB_trans : ∀ {T S U : List Bool}, T.length = S.length → S.length = U.length → ltB T S = true → ltB S U = true → ltB T U = true
  | [], _, _, _, _, h, _ => by simp [ltB] at h
  | _ :: _, [], _, h, _, _, _ => by simp at h
  | _ :: _, _ :: _, [], _, h, _, _ => by simp at h
  | true :: T, true :: S, true :: U, h1, h2, h, k => by
    unfold ltB at *
    exact ltB_trans (by simpa using h1) (by simpa using h2) h k
  | false :: T, false :: S, false :: U, h1, h2, h, k => by
    unfold ltB at *
    exact ltB_trans (by simpa using h1) (by simpa using h2) h k
  | true :: T, true :: S, false :: U, _, _, _, _ => rfl
  | true :: T, false :: S, false :: U, _, _, _, _ => rfl
  | true :: T, false :: S, true :: U, _, _, _, k => by simp [ltB] at k
  | false :: T, true :: S, _ :: U, _, _, h, _ => by simp [ltB] at h
  | false :: T, false :: S, true :: U, _, _, _, k => by simp [ltB] at k
/-- A set that the first plan may have. -/
def gd (x : Nat) (l : List Nat) (s : Nat) : Bool := decide (tr (bt l.length s) = x) && vld (bt l.length s) l && canB (tk (bt l.length s) l)
/-- What is known of the best set among the first ones. -/
def BestN (x : Nat) (l : List Nat) (n : Nat) (b : Option Nat) : Prop := match b with
  | none => ∀ s, s < n → gd x l s = false
  | some b => b < n ∧ gd x l b = true ∧ ∀ s, s < n → gd x l s = true → s = b ∨ ltB (bt l.length b) (bt l.length s) = true
theorem gd_ss {x : Nat} {l : List Nat} {s : Nat} (h : gd x l s = true) : bt l.length s ∈ ss x l ∧ canB (tk (bt l.length s) l) = true := by
  unfold gd at h
  rw [Bool.and_eq_true, Bool.and_eq_true, decide_eq_true_eq] at h
  exact ⟨mem_ss_bt.2 h.1, h.2⟩
theorem best_end {x b : Nat} {l : List Nat} (h : BestN x l (2 ^ l.length) (some b)) : bt l.length b = bst x l := by
  obtain ⟨h1, h2, h3⟩ := h
  obtain ⟨g1, g2⟩ := gd_ss h2
  refine (bst_min g1 g2 fun S hS hc => ?_).symm
  obtain ⟨hl, htr, hv⟩ := mem_ss.1 hS
  obtain ⟨s, hs, rfl⟩ := bt_surj l.length S hl
  rcases h3 s hs (by unfold gd; rw [Bool.and_eq_true, Bool.and_eq_true, decide_eq_true_eq]; exact ⟨⟨htr, (vld_iff (bt_len _ _)).2 hv⟩, hc⟩) with h | h
  · exact .inl (by rw [h])
  · exact .inr h
theorem best_some {x : Nat} {l : List Nat} (h8 : l.length < 8) (hc : canB (x :: l) = true) (h : BestN x l (2 ^ l.length) none) : False := by
  have hne := (sols_can (k := l.length + 1) (a := 0) (l := x :: l) rfl (by omega)).2 hc
  rw [sols, row_ss] at hne
  apply hne
  rw [List.flatMap_eq_nil_iff]
  intro S hS
  obtain ⟨hl, htr, hv⟩ := mem_ss.1 hS
  obtain ⟨s, hs, rfl⟩ := bt_surj l.length S hl
  have hg := h s hs
  have hvl := (vld_iff (bt_len _ _)).2 hv
  unfold gd at hg
  rw [decide_eq_true htr, hvl, Bool.true_and, Bool.true_and] at hg
  rw [List.map_eq_nil_iff, List.nil_append]
  apply Classical.byContradiction
  intro hn
  rw [(sols_can (by rw [tk_len hl]) (by omega)).1 hn] at hg
  cases hg
theorem best_step {x n : Nat} {l : List Nat} {b : Option Nat} (hn : n < 2 ^ l.length) (h : BestN x l n b) : BestN x l (n + 1) (if gd x l n = true ∧ (∀ c, b = some c → ltB (bt l.length n) (bt l.length c) = true) then some n else b) := by
  by_cases hg : gd x l n = true
  · cases b with
    | none =>
      rw [if_pos ⟨hg, fun c e => by cases e⟩]
      refine ⟨by omega, hg, fun s hs hgs => ?_⟩
      rcases Nat.lt_or_eq_of_le (Nat.lt_succ_iff.1 hs) with hs | rfl
      · rw [h s hs] at hgs; cases hgs
      · exact .inl rfl
    | some b =>
      obtain ⟨h1, h2, h3⟩ := h
      by_cases hl : ltB (bt l.length n) (bt l.length b) = true
      · rw [if_pos ⟨hg, fun c e => by cases e; exact hl⟩]
        refine ⟨by omega, hg, fun s hs hgs => ?_⟩
        rcases Nat.lt_or_eq_of_le (Nat.lt_succ_iff.1 hs) with hs | rfl
        · right
          rcases h3 s hs hgs with rfl | h4
          · exact hl
          · exact ltB_trans (by rw [bt_len, bt_len]) (by rw [bt_len, bt_len]) hl h4
        · exact .inl rfl
      · rw [if_neg (fun hc => hl (hc.2 b rfl))]
        refine ⟨by omega, h2, fun s hs hgs => ?_⟩
        rcases Nat.lt_or_eq_of_le (Nat.lt_succ_iff.1 hs) with hs | rfl
        · exact h3 s hs hgs
        · right
          refine ltB_total (by rw [bt_len, bt_len]) (fun e => ?_) (by simpa using hl)
          have := bt_inj _ _ _ hn (by omega) e
          omega
  · rw [if_neg (fun hc => hg hc.1)]
    cases b with
    | none =>
      intro s hs
      rcases Nat.lt_or_eq_of_le (Nat.lt_succ_iff.1 hs) with hs | rfl
      · exact h s hs
      · simpa using hg
    | some b =>
      obtain ⟨h1, h2, h3⟩ := h
      refine ⟨by omega, h2, fun s hs hgs => ?_⟩
      rcases Nat.lt_or_eq_of_le (Nat.lt_succ_iff.1 hs) with hs | rfl
      · exact h3 s hs hgs
      · exact absurd hgs hg
end Go.Proofs.Ytbimapbcpmeooaa.Cl
