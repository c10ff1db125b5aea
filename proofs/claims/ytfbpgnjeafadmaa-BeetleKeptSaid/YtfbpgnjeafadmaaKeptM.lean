/- The fewest bales to be frozen: which sets keep a bale, and the first of the smallest. -/
import Derived.Test.YtfbpgnjeafadmaaOutP
import Derived.Test.YtfbpgnjeafadmaaWSafe
import Derived.Test.YtfbpgnjeafadmaaWIdle
namespace Go.Proofs.Ytfbpgnjeafadmaa.Fl
open Go Go.Proofs.Ytfbpgnjeafadmaa Go.Proofs.Ytfbpgnjeafadmaa.AX
set_option maxRecDepth 100000

theorem lexI_trans : ∀ a b c : List Int, a.length = b.length → b.length = c.length → lexI a b ≤ 0 → lexI b c ≤ 0 → lexI a c ≤ 0
  | [], _, [], _, _, _, _ => by simp [lexI]
  | [], [], _ :: _, _, h, _, _ => by simp at h
  | [], _ :: _, _ :: _, h, _, _, _ => by simp at h
  | _ :: _, [], _, h, _, _, _ => by simp at h
  | _ :: _, _ :: _, [], _, h, _, _ => by simp at h
  | x :: a, y :: b, z :: c, h1, h2, h3, h4 => by
    simp only [lexI] at h3 h4 ⊢
    have hxy : x ≤ y := by
      by_cases q : y < x
      · rw [if_neg (by omega), if_pos q] at h3; omega
      · omega
    have hyz : y ≤ z := by
      by_cases q : z < y
      · rw [if_neg (by omega), if_pos q] at h4; omega
      · omega
    by_cases q : x < z
    · rw [if_pos q]; omega
    · have e1 : x = y := by omega
      have e2 : y = z := by omega
      subst e1; subst e2
      rw [if_neg (by omega), if_neg (by omega)] at h3 h4 ⊢
      exact lexI_trans a b c (by simpa using h1) (by simpa using h2) h3 h4
theorem lexI_zero : ∀ a b : List Int, lexI a b = 0 → a = b
  | [], [], _ => rfl
  | [], _ :: _, h => by simp [lexI] at h
  | _ :: _, [], h => by simp [lexI] at h
  | x :: a, y :: b, h => by
    simp only [lexI] at h
    by_cases h1 : x < y
    · rw [if_pos h1] at h; omega
    · by_cases h2 : y < x
      · rw [if_neg h1, if_pos h2] at h; omega
      · rw [if_neg h1, if_neg h2] at h
        rw [lexI_zero a b h, show x = y by omega]
/-- Shorter, or as long and not later. -/
def leL (a b : List Int) : Prop := a.length < b.length ∨ (a.length = b.length ∧ lexI a b ≤ 0)
theorem leL_refl (a : List Int) : leL a a := .inr ⟨rfl, by have := lexI_neg a a; omega⟩
theorem leL_trans {a b c : List Int} (h1 : leL a b) (h2 : leL b c) : leL a c := by
  rcases h1 with h1 | ⟨h1, h3⟩
  · rcases h2 with h2 | ⟨h2, -⟩
    · exact .inl (by omega)
    · exact .inl (by omega)
  · rcases h2 with h2 | ⟨h2, h4⟩
    · exact .inl (by omega)
    · exact .inr ⟨by omega, lexI_trans a b c h1 h2 h3 h4⟩
theorem leL_anti {a b : List Int} (h1 : leL a b) (h2 : leL b a) : a = b := by
  have hn := lexI_neg a b
  rcases h1 with h1 | ⟨h1, h3⟩
  · rcases h2 with h2 | ⟨h2, -⟩ <;> omega
  · rcases h2 with h2 | ⟨h2, h4⟩
    · omega
    · exact lexI_zero a b (by omega)
/-- What the law asks before it takes another list. -/
def ltL (b a : List Int) : Bool := decide (b.length < a.length) || (decide (b.length = a.length) && decide (lexI b a < 0))
theorem ltL_le {a b : List Int} (h : ltL b a = true) : leL b a := by
  unfold ltL at h
  simp only [Bool.or_eq_true, Bool.and_eq_true, decide_eq_true_eq] at h
  rcases h with h | ⟨h1, h2⟩
  · exact .inl h
  · exact .inr ⟨h1, by omega⟩
theorem ltL_no {a b : List Int} (h : ltL b a = false) : leL a b := by
  unfold ltL at h
  simp only [Bool.or_eq_false_iff, Bool.and_eq_false_iff, decide_eq_false_iff_not] at h
  have hn := lexI_neg a b
  unfold leL
  omega
/-- Bales that may be frozen, and keep one. -/
def admK (r c n : Nat) (S Z : Nat → Bool) (k : Nat) (U : Nat → Bool) : Prop := (∀ b, U b = true → freeS n S Z k b = true) ∧ fitK r c n S Z k U = true
variable {r c n k : Nat} {S Z : Nat → Bool}
theorem free_lt {b : Nat} (h : freeS n S Z k b = true) : b < n := by
  unfold freeS upd at h
  split at h
  · cases h
  · simp [sub', opn] at h
    exact of_decide_eq_true h.1.1
theorem adm_ex (_hn : r * c = n) (_hS : ∀ b, S b = true → b < n) (hl : lostS r c S Z k = false) : admK r c n S Z k (freeS n S Z k) := by
  refine ⟨fun b h => h, ?_⟩
  unfold lostS at hl
  simp only [Bool.or_eq_false_iff, Bool.and_eq_false_iff, Bool.not_eq_false', decide_eq_false_iff_not] at hl
  unfold fitK
  rw [Bool.not_eq_true']
  have key : ∀ b, sp r c 2 (opn n (or' Z (freeS n S Z k))) S b = true → S b = true := by
    refine D_least (fun _ h => h) (fun b h => ?_) _
    rcases nxt_iff.1 h with h | ⟨h1, h2, h3⟩
    · exact h
    · simp only [opn, sub', or', freeS, upd, Bool.and_eq_true, Bool.not_eq_true', Bool.or_eq_false_iff] at h2
      obtain ⟨h4, h5, h6⟩ := h2
      by_cases hbk : b = k
      · subst hbk
        rcases hl.2 with h7 | h7
        · rw [h5] at h7; cases h7
        · exact absurd h3 h7
      · rw [if_neg hbk, h4, h5] at h6
        simpa using h6
  cases h : sp r c 2 (opn n (or' Z (freeS n S Z k))) S k with
  | false => rfl
  | true => rw [key k h] at hl; cases hl.1
theorem adm_no (hn : r * c = n) (hS : ∀ b, S b = true → b < n) (hk : k < n) {U : Nat → Bool} (hU : admK r c n S Z k U) : lostS r c S Z k = false := by
  obtain ⟨h1, h2⟩ := hU
  unfold fitK at h2
  rw [Bool.not_eq_true'] at h2
  have hS' : ∀ b, S b = true → b < r * c := by rw [hn]; exact hS
  have hSk : S k = false := by
    cases h : S k with
    | false => rfl
    | true =>
      have := sp_of (r := r) (c := c) (k := 2) (O := opn n (or' Z U)) (t := 0) hS' h
      rw [this] at h2; cases h2
  have hUk : U k = false := by
    cases h : U k with
    | false => rfl
    | true => have := h1 k h; simp [freeS, upd] at this
  unfold lostS
  rw [hSk, Bool.false_or]
  cases hZ : Z k with
  | true => rfl
  | false =>
    rw [Bool.not_false, Bool.true_and]
    refine decide_eq_false fun hb => ?_
    have := sp_closed (r := r) (c := c) (k := 2) (O := opn n (or' Z U)) hS' k (nxt_iff.2 (.inr ⟨by omega, by simp [opn, sub', or', hZ, hUk, lt', hk], Nat.le_trans hb (bes_mono (fun b h => sp_of (t := 0) hS' h) k)⟩))
    rw [this] at h2; cases h2
theorem adm_first {U : Nat → Bool} (h25 : n ≤ 25) (hU : admK r c n S Z k U) : (chP (fitK r c n S Z k) (freeS n S Z k) (num U).length 0 none').2 = true ∧ ∃ ts : List Nat, (num (addL none' ts)).length = (num U).length ∧ (chP (fitK r c n S Z k) (freeS n S Z k) (num U).length 0 none').1 = addL none' ts ∧ lexI (num (addL none' ts)) (num U) ≤ 0 := by
  obtain ⟨h1, ts, h2, h3, h4, -, h6⟩ := chP_first (fitK r c n S Z k) (freeS n S Z k) (num U).length 0 none' (numN U) (by omega) (by rw [num_numN, List.length_map]) (ascL_num hU.1) (by rw [addL_num fun b hb => by have := free_lt (hU.1 b hb); omega]; exact hU.2)
  have e : num (addL none' ts) = ts.map fun n : Nat => (n : Int) := by rw [num_numN, num_addL h3]
  exact ⟨h1, ts, by rw [e, List.length_map, h2], h4, by rw [e]; exact h6⟩
/-- What Keep returns is the best of all. -/
theorem kept_is (h25 : n ≤ 25) {W : Nat → Bool} (hW : admK r c n S Z k W) (hm : ∀ U, admK r c n S Z k U → leL (num W) (num U)) (j : Nat) (hj : ∀ i, i < j → (chP (fitK r c n S Z k) (freeS n S Z k) i 0 none').2 = false) (ht : (chP (fitK r c n S Z k) (freeS n S Z k) j 0 none').2 = true) :
    num (chP (fitK r c n S Z k) (freeS n S Z k) j 0 none').1 = num W := by
  obtain ⟨ts, t1, t2, t3, t4⟩ := chP_some (fitK r c n S Z k) (freeS n S Z k) j 0 none' (by omega) ht
  have e : num (addL none' ts) = ts.map fun n : Nat => (n : Int) := by rw [num_numN, num_addL t2]
  have hA : admK r c n S Z k (addL none' ts) := by
    refine ⟨fun b hb => ?_, t4⟩
    rcases (addL_iff ts none' b).1 hb with h | h
    · simp [none'] at h
    · exact (ascL_mem t2 b h).2.2
  have hle := hm _ hA
  have hlen : (num (addL none' ts)).length = j := by rw [e, List.length_map, t1]
  obtain ⟨g1, us, g2, g3, g4⟩ := adm_first h25 hW
  have hge : j ≤ (num W).length := by
    refine Nat.le_of_not_lt fun h => ?_
    rw [hj _ h] at g1; cases g1
  have hlw : (num W).length = j := by
    rcases hle with h | ⟨h, -⟩ <;> omega
  rw [hlw] at g2 g3
  rw [t3] at g3 ⊢
  rw [← g3] at g4
  exact leL_anti (.inr ⟨by omega, g4⟩) hle
theorem Keep_s {H : AH} {u w : AV} (h : St H r c n S Z u w) (hk : k < n) (Q : AV → AH → Prop)
    (h12 : (∀ U, ¬ admK r c n S Z k U) → ∀ H', Ext H H' → Q (.tuple [.slice none 0 0 0 1 false, .int .i64 12]) H')
    (hq : ∀ W, admK r c n S Z k W → ∀ v' H', (∀ W', admK r c n S Z k W' → (∀ U, admK r c n S Z k U → leL (num W') (num U)) → OwnN H.length H' v' (num W')) → Ext H H' → Q (.tuple [v', .int .i64 0]) H') : AC Try.prog 38 [.agg [.int .i64 r, .int .i64 c, u, w], .int .i64 k] H Q := by
  obtain ⟨l, o, h1, h2, h3, h4⟩ := h.ls
  obtain ⟨e1, e2, e3⟩ := chk_sets h.hs h.hn h.hS h.hZ h.hd h3 h4
  have h25 := h.hs.le
  rw [h.hn] at h25
  have hn := h.hn
  have hS := h.hS
  refine Keep_ac r c u w l o k H Q h1 h2 (perm_len h3) (perm_len h4) (fun hc => absurd e1 hc) (fun _ hb => ?_) (fun _ _ hl => ?_) (fun _ _ hl => ?_) (fun _ _ hl j _ hj ht v' H' hN hE => ?_)
  · rw [Int.toNat_natCast, Int.toNat_natCast, hn] at hb
    omega
  · rw [Int.toNat_natCast, Int.toNat_natCast, Int.toNat_natCast, e2, e3] at hl
    exact h12 fun U hU => by rw [adm_no hn hS hk hU] at hl; cases hl
  · rw [Int.toNat_natCast, Int.toNat_natCast, Int.toNat_natCast, e2, e3] at hl
    rw [Int.toNat_natCast, Int.toNat_natCast, Int.toNat_natCast, hn, e2, e3]
    exact ⟨_, num_len _, (adm_first h25 (adm_ex hn hS hl)).1⟩
  · rw [Int.toNat_natCast, Int.toNat_natCast, Int.toNat_natCast, e2, e3] at hl
    rw [Int.toNat_natCast, Int.toNat_natCast, Int.toNat_natCast, hn, e2, e3] at hj ht hN
    exact hq _ (adm_ex hn hS hl) v' H' (fun W' g1 g2 => by rw [← kept_is h25 g1 g2 j hj ht]; exact hN) hE
end Go.Proofs.Ytfbpgnjeafadmaa.Fl
