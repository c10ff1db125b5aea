/- What stands against counts; counts in another order. Pure. -/
import Derived.Test.YtbimapbcpmeooaaSetM
import Derived.Test.YtbimapbcpmeooaaGooM
namespace Go.Proofs.Ytbimapbcpmeooaa.Cl
set_option linter.unusedVariables false
theorem dsc_eq : ∀ {a b : List Nat}, Dsc a → Dsc b → a.Perm b → a = b
  | [], b, _, _, hp => by rw [hp.nil_eq]
  | x :: a, [], _, _, hp => by simpa using hp.length_eq
  | x :: a, y :: b, ha, hb, hp => by
    obtain ⟨h1, h2⟩ := List.pairwise_cons.1 ha
    obtain ⟨h3, h4⟩ := List.pairwise_cons.1 hb
    have e : x = y := by
      have hx : x ∈ y :: b := hp.mem_iff.1 (by simp)
      have hy : y ∈ x :: a := hp.mem_iff.2 (by simp)
      rcases List.mem_cons.1 hx with h | h
      · exact h
      · rcases List.mem_cons.1 hy with h' | h'
        · exact h'.symm
        · exact Nat.le_antisymm (h3 x h) (h1 y h')
    subst e
    rw [dsc_eq h2 h4 (List.Perm.cons_inv hp)]
theorem srtD_eq {a b : List Nat} (h : a.Perm b) : srtD a = srtD b := dsc_eq (srtD_dsc a) (srtD_dsc b) (((srtD_perm a).trans h).trans (srtD_perm b).symm)
theorem srtD_of {l b : List Nat} (h : b.Perm l) (hb : Dsc b) : b = srtD l := dsc_eq hb (srtD_dsc l) (h.trans (srtD_perm l).symm)
/-- A number stands against counts. -/
def agn (l : List Nat) (k : Nat) : Bool := !egK (srtD l) k
/-- The smallest number above i that does, of so many. -/
def fstF (l : List Nat) : Nat → Nat → Nat
  | 0, _ => 0
  | n + 1, i => if agn l (i + 1) = true then i + 1 else fstF l n (i + 1)
def fstA (l : List Nat) : Nat := fstF l l.length 0
theorem fstF_zero (l : List Nat) : ∀ n i, fstF l n i = 0 ↔ ∀ j, j < n → agn l (i + j + 1) = false
  | 0, i => by simp [fstF]
  | n + 1, i => by
    unfold fstF
    by_cases c : agn l (i + 1) = true
    · rw [if_pos c]
      constructor
      · intro h; omega
      · intro h
        have := h 0 (by omega)
        simp only [Nat.add_zero] at this
        rw [c] at this; cases this
    · rw [if_neg c, fstF_zero l n (i + 1)]
      constructor
      · intro h j hj
        cases j with
        | zero => simpa using c
        | succ j =>
          have := h j (by omega)
          rw [show i + (j + 1) + 1 = i + 1 + j + 1 from by omega]
          exact this
      · intro h j hj
        have := h (j + 1) (by omega)
        rw [show i + 1 + j + 1 = i + (j + 1) + 1 from by omega]
        exact this
theorem sum_perm {a b : List Nat} (h : a.Perm b) : a.sum = b.sum := by
  induction h with
  | nil => rfl
  | cons x _ ih => simp [ih]
  | swap x y l => simp; omega
  | trans _ _ h1 h2 => rw [h1, h2]
theorem canB_eq (l : List Nat) : canB l = (decide (l.sum % 2 = 0) && decide (fstA l = 0)) := by
  unfold canB egB
  rw [sum_perm (srtD_perm l), (srtD_perm l).length_eq]
  have h1 : Nat.beq (l.sum % 2) 0 = decide (l.sum % 2 = 0) := by
    cases h : Nat.beq (l.sum % 2) 0
    · have := Nat.ne_of_beq_eq_false h
      simp [this]
    · have := Nat.eq_of_beq_eq_true h
      simp [this]
  rw [h1]
  congr 1
  rw [Bool.eq_iff_iff, List.all_eq_true, decide_eq_true_eq]
  unfold fstA
  rw [fstF_zero]
  constructor
  · intro h j hj
    have := h j (List.mem_range.2 hj)
    rw [Nat.zero_add]
    simp [agn, this]
  · intro h j hj
    have := h j (List.mem_range.1 hj)
    rw [Nat.zero_add] at this
    simpa [agn] using this
theorem agn_perm {a b : List Nat} (h : a.Perm b) (k : Nat) : agn a k = agn b k := by unfold agn; rw [srtD_eq h]
theorem fstF_perm {a b : List Nat} (h : a.Perm b) : ∀ n i, fstF a n i = fstF b n i
  | 0, _ => rfl
  | n + 1, i => by unfold fstF; rw [agn_perm h, fstF_perm h n]
theorem fstA_perm {a b : List Nat} (h : a.Perm b) : fstA a = fstA b := by unfold fstA; rw [h.length_eq, fstF_perm h]
theorem canB_perm {a b : List Nat} (h : a.Perm b) : canB a = canB b := by unfold canB; rw [srtD_eq h]
theorem agn_eq (l : List Nat) (k : Nat) : agn l k = decide (k * (k - 1) + (((srtD l).drop k).map fun y => min y k).sum < ((srtD l).take k).sum) := by
  unfold agn egK
  have e : (fun y => bif Nat.ble y k then y else k) = fun y => min y k := by
    funext y
    cases h : Nat.ble y k
    · have : ¬ y ≤ k := fun hc => by rw [Nat.ble_eq_true_of_le hc] at h; cases h
      simp only [cond_false]
      omega
    · have := Nat.le_of_ble_eq_true h
      simp only [cond_true]
      omega
  rw [e]
  generalize ((srtD l).take k).sum = p
  generalize k * (k - 1) + (((srtD l).drop k).map fun y => min y k).sum = q
  cases h : Nat.ble p q
  · have : ¬ p ≤ q := fun hc => by rw [Nat.ble_eq_true_of_le hc] at h; cases h
    simp; omega
  · have := Nat.le_of_ble_eq_true h
    simp; omega
end Go.Proofs.Ytbimapbcpmeooaa.Cl
