/- Divisions: what is right, how many there are, and their numbers. -/
import Derived.Test.YtjaefngmidllgaaStM
namespace Go.Proofs.Ytjaefngmidllgaa.St
open Go Go.Proofs.Ytjaefngmidllgaa Go.Proofs.Ytjaefngmidllgaa.AX
set_option linter.unusedVariables false
/-- Numbers as ints. -/
def il (l : List Nat) : List Int := l.map fun x : Nat => (x : Int)
theorem il_len (l : List Nat) : (il l).length = l.length := by simp [il]
theorem il_get {l : List Nat} {i : Nat} (h : i < l.length) : (il l)[i]'(by rw [il_len]; exact h) = (l[i] : Int) := by simp [il]
theorem il_inj {a b : List Nat} (h : il a = il b) : a = b := by
  unfold il at h
  exact (List.map_inj_right (fun x y e => by omega)).1 h
theorem il_snoc (l : List Nat) (x : Nat) : il (l ++ [x]) = il l ++ [(x : Int)] := by simp [il]
theorem il_take (l : List Nat) (i : Nat) : il (l.take i) = (il l).take i := by simp [il]
theorem il_drop (l : List Nat) (i : Nat) : il (l.drop i) = (il l).drop i := by simp [il]
/-- The error of a list's length. -/
def szE (n : Nat) : Int := if n = 0 then 4 else if 9 < n then 3 else 0
/-- The error of a division. -/
def chkG : Nat → List Int → Int
  | _, [] => 0
  | m, x :: l => if x < 0 then 1 else if (m : Int) < x then 7 else chkG (if x = m then m + 1 else m) l
def chk (l : List Int) : Int := if szE l.length = 0 then chkG 0 l else szE l.length
structure OkD (d : List Nat) : Prop where
  pos : 0 < d.length
  len : d.length ≤ 9
  rg : rg 0 d = true
theorem chkG_ok : ∀ (l : List Int) (m : Nat), chkG m l = 0 → ∃ d, l = il d ∧ rg m d = true
  | [], m, _ => ⟨[], rfl, rfl⟩
  | x :: l, m, h => by
    unfold chkG at h
    split at h
    · cases h
    · split at h
      · cases h
      · rename_i h1 h2
        obtain ⟨d, rfl, hd⟩ := chkG_ok l _ h
        obtain ⟨y, rfl⟩ : ∃ y : Nat, x = y := ⟨x.toNat, by omega⟩
        refine ⟨y :: d, rfl, ?_⟩
        simp only [rg, Bool.and_eq_true, decide_eq_true_eq]
        refine ⟨by omega, ?_⟩
        have e : ((y : Int) = (m : Int)) = (y = m) := propext ⟨fun h => by omega, fun h => by omega⟩
        simp only [e] at hd
        exact hd
theorem chkG_il : ∀ (d : List Nat) (m : Nat), rg m d = true → chkG m (il d) = 0
  | [], _, _ => rfl
  | x :: d, m, h => by
    simp only [rg, Bool.and_eq_true, decide_eq_true_eq] at h
    show chkG m ((x : Int) :: il d) = 0
    unfold chkG
    have e : ((x : Int) = (m : Int)) = (x = m) := propext ⟨fun h => by omega, fun h => by omega⟩
    rw [if_neg (by omega), if_neg (by omega), ← chkG_il d _ h.2]
    simp only [e]
theorem chk_ok {l : List Int} (h : chk l = 0) : ∃ d, l = il d ∧ OkD d := by
  unfold chk at h
  split at h
  · rename_i c
    obtain ⟨d, rfl, hd⟩ := chkG_ok _ _ h
    rw [il_len] at c
    refine ⟨d, rfl, ?_, ?_, hd⟩
    · unfold szE at c; split at c
      · cases c
      · omega
    · unfold szE at c; split at c
      · cases c
      · split at c
        · cases c
        · omega
  · rename_i c; exact absurd h c
theorem sz_ok {n : Nat} (h : 0 < n) (h2 : n ≤ 9) : szE n = 0 := by unfold szE; rw [if_neg (by omega), if_neg (by omega)]
theorem chk_il {d : List Nat} (h : OkD d) : chk (il d) = 0 := by
  unfold chk
  rw [il_len, if_pos (sz_ok h.pos h.len)]
  exact chkG_il d 0 h.rg
theorem ok_dv {K : Type} [BEq K] [LawfulBEq K] {l : List K} (h : 0 < l.length) (h9 : l.length ≤ 9) : OkD (dv l) := ⟨by rw [dv_len]; exact h, by rw [dv_len]; exact h9, rg_dv l⟩
theorem OkD.lt {d : List Nat} (h : OkD d) : ∀ x ∈ d, x < 9 := fun x hx => by
  have h1 := rg_lt d 0 h.rg x hx
  have h2 := opn_le d 0
  have := h.len
  omega
/-- In how many ways boxes that are left go into rooms. -/
def ways : Nat → Nat → Nat
  | 0, _ => 1
  | l + 1, o => o * ways l o + ways l (o + 1)
theorem ways_lt : ∀ l : Nat, l < 10 → ∀ o : Nat, o < 11 → ways l o < 1000000000000 := by decide +kernel
theorem ways_pos : ∀ (l o : Nat), 0 < ways l o
  | 0, _ => by simp [ways]
  | l + 1, o => by have := ways_pos l (o + 1); simp only [ways]; omega
def sti : Nat → Nat → Nat
  | 0, 0 => 1
  | 0, _ + 1 => 0
  | _ + 1, 0 => 0
  | n + 1, k + 1 => sti n k + (k + 1) * sti n (k + 1)
theorem sti_lt : ∀ n : Nat, n < 10 → ∀ k : Nat, k < 10 → sti n k < 1000000000 := by decide +kernel
/-- The reference's way of counting. -/
def rfI (w : Int) : Nat → Nat → Nat
  | 0, r => if w < 0 ∨ (r : Int) = w then 1 else 0
  | m + 1, r => r * rfI w m r + rfI w m (r + 1)
theorem rfI_ways : ∀ (m r : Nat), rfI (-1) m r = ways m r
  | 0, r => by simp [rfI, ways]
  | m + 1, r => by simp only [rfI, ways, rfI_ways m]
theorem rfI_le (w : Int) : ∀ (m r : Nat), rfI w m r ≤ ways m r
  | 0, r => by unfold rfI ways; split <;> omega
  | m + 1, r => by
    simp only [rfI, ways]
    exact Nat.add_le_add (Nat.mul_le_mul_left _ (rfI_le w m r)) (rfI_le w m (r + 1))
theorem rfI_sti : ∀ n : Nat, n < 10 → ∀ k : Nat, k < 10 → rfI (k : Int) n 0 = sti n k := by decide +kernel
/-- The division with a number. -/
def atS : Nat → Nat → Nat → List Nat
  | 0, _, _ => []
  | l + 1, o, k => min (k / ways l o) o :: atS l (if min (k / ways l o) o = o then o + 1 else o) (k - min (k / ways l o) o * ways l o)
theorem atS_len : ∀ (l o k : Nat), (atS l o k).length = l
  | 0, _, _ => rfl
  | l + 1, o, k => by simp [atS, atS_len l]
theorem atS_rg : ∀ (l o k : Nat), rg o (atS l o k) = true
  | 0, _, _ => rfl
  | l + 1, o, k => by
    simp only [atS, rg, Bool.and_eq_true, decide_eq_true_eq]
    exact ⟨by omega, atS_rg l _ _⟩
/-- The number of a division. -/
def numS : Nat → List Nat → Nat
  | _, [] => 0
  | o, x :: l => x * ways l.length o + numS (if x = o then o + 1 else o) l
theorem numS_lt : ∀ (l : List Nat) (o : Nat), rg o l = true → numS o l < ways l.length o
  | [], o, _ => by simp [numS, ways]
  | x :: l, o, h => by
    simp only [rg, Bool.and_eq_true, decide_eq_true_eq] at h
    have ih := numS_lt l _ h.2
    simp only [numS, List.length_cons, ways]
    by_cases c : x = o
    · subst c
      rw [if_pos rfl] at ih ⊢
      omega
    · rw [if_neg c] at ih ⊢
      have : x * ways l.length o + ways l.length o ≤ o * ways l.length o := by
        rw [← Nat.succ_mul]
        exact Nat.mul_le_mul_right _ (by omega)
      omega
/-- What is left of a number stays below what is left. -/
theorem at_less {l o k : Nat} (h : k < ways (l + 1) o) : k - min (k / ways l o) o * ways l o < ways l (if min (k / ways l o) o = o then o + 1 else o) := by
  have hp := ways_pos l o
  have hp2 := ways_pos l (o + 1)
  simp only [ways] at h
  by_cases c : o ≤ k / ways l o
  · rw [Nat.min_eq_right c, if_pos rfl]; omega
  · rw [Nat.min_eq_left (by omega), if_neg (by omega), Nat.mul_comm, ← Nat.mod_eq_sub_mul_div]
    exact Nat.mod_lt _ hp
end Go.Proofs.Ytjaefngmidllgaa.St
