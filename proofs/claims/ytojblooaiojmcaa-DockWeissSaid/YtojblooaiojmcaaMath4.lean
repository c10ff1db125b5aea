/- Ranks of lists of wishes, for the walk through all of them. -/
import Derived.Test.YtojblooaiojmcaaRnum
namespace Go.Proofs.Ytojblooaiojmcaa
open Go Go.Proofs.Ytojblooaiojmcaa.AX

/-- How many lists of the same length before this one serve all. -/
def rk (n : Nat) : Nat → List Nat → Nat
  | _, [] => 0
  | s, w :: l => sW (gW n l.length s) w + if ff s (n - w) w < n then rk n (nextSet n s w) l else 0
/-- 1 if the list serves all. -/
def sv (n s : Nat) (l : List Nat) : Nat := if -1 ∈ parkS n s l then 0 else 1
theorem sv_cons (n s w : Nat) (l : List Nat) : sv n s (w :: l) = if ff s (n - w) w < n then sv n (nextSet n s w) l else 0 := by
  unfold sv
  rw [parkS]
  by_cases h : ff s (n - w) w < n
  · rw [if_pos h, if_pos h]
    have : (-1 ∈ ((ff s (n - w) w : Nat) : Int) :: parkS n (nextSet n s w) l) ↔ -1 ∈ parkS n (nextSet n s w) l := by
      rw [List.mem_cons]
      constructor
      · rintro (h | h)
        · omega
        · exact h
      · exact .inr
    simp only [this]
  · rw [if_neg h, if_neg h, if_pos (by simp)]
theorem gW_next (n k s w : Nat) : gW n k s w = if ff s (n - w) w < n then tlF n k (nextSet n s w) else 0 := by
  unfold gW nextSet
  split <;> rfl
theorem tlF_succ (n k s : Nat) : tlF n (k + 1) s = sW (gW n k s) n := rfl
theorem rk_top {n : Nat} (hn : 1 ≤ n) : ∀ (k s : Nat), rk n s (List.replicate k (n - 1)) + sv n s (List.replicate k (n - 1)) = tlF n k s
  | 0, s => by simp [rk, sv, parkS, tlF]
  | k + 1, s => by
    obtain ⟨m, rfl⟩ : ∃ m, n = m + 1 := ⟨n - 1, by omega⟩
    rw [List.replicate_succ, rk, sv_cons, tlF_succ, sW, Nat.add_sub_cancel, List.length_replicate, gW_next (m + 1) k s m]
    have := rk_top hn k (nextSet (m + 1) s m)
    rw [Nat.add_sub_cancel] at this
    split <;> omega
theorem rk_zero (n : Nat) : ∀ (k s : Nat), rk n s (List.replicate k 0) = 0
  | 0, s => rfl
  | k + 1, s => by
    rw [List.replicate_succ, rk, rk_zero n k, sW]
    simp
/-- The next list. -/
theorem rk_next {n : Nat} (hn : 1 ≤ n) (w j : Nat) : ∀ (p : List Nat) (s : Nat), rk n s (p ++ w :: List.replicate j (n - 1)) + sv n s (p ++ w :: List.replicate j (n - 1)) = rk n s (p ++ (w + 1) :: List.replicate j 0)
  | [], s => by
    simp only [List.nil_append]
    rw [rk, rk, sv_cons, List.length_replicate, List.length_replicate, sW, gW_next n j s w, rk_zero]
    have := rk_top hn j (nextSet n s w)
    have h0 : (if ff s (n - (w + 1)) (w + 1) < n then 0 else 0) = 0 := by split <;> rfl
    rw [h0]
    split <;> omega
  | x :: p, s => by
    simp only [List.cons_append]
    rw [rk, rk, sv_cons]
    have := rk_next hn w j p (nextSet n s x)
    have hl : (p ++ w :: List.replicate j (n - 1)).length = (p ++ (w + 1) :: List.replicate j 0).length := by simp
    rw [hl]
    split <;> omega
theorem numS_rk (n : Nat) : ∀ (l : List Nat) (s : Nat), -1 ∉ parkS n s l → numS n s l = rk n s l
  | [], s, _ => rfl
  | w :: l, s, h => by
    rw [parkS] at h
    simp only [List.mem_cons, not_or] at h
    have hb : ff s (n - w) w < n := by
      refine Classical.byContradiction fun h5 => ?_
      rw [if_neg h5] at h
      exact h.1 rfl
    rw [numS, rk, if_pos hb, numS_rk n l _ h.2]
theorem numS_lt (n : Nat) : ∀ (l : List Nat) (s : Nat), -1 ∉ parkS n s l → (∀ w ∈ l, w < n) → numS n s l < tlF n l.length s
  | [], s, _, _ => by simp [numS, tlF]
  | w :: l, s, h, hw => by
    rw [parkS] at h
    simp only [List.mem_cons, not_or] at h
    have hb : ff s (n - w) w < n := by
      refine Classical.byContradiction fun h5 => ?_
      rw [if_neg h5] at h
      exact h.1 rfl
    have h1 := numS_lt n l _ h.2 fun y hy => hw y (List.mem_cons_of_mem _ hy)
    have h2 := sW_mono (g := gW n l.length s) (show w + 1 ≤ n from hw w (by simp))
    rw [sW, gW_next n _ s w, if_pos hb] at h2
    rw [numS, List.length_cons, tlF_succ]
    omega
theorem atS_numS (n : Nat) : ∀ (l : List Nat) (s : Nat), -1 ∉ parkS n s l → (∀ w ∈ l, w < n) → atS n l.length s (numS n s l) = l
  | [], s, _, _ => rfl
  | w :: l, s, h, hw => by
    rw [parkS] at h
    simp only [List.mem_cons, not_or] at h
    have hb : ff s (n - w) w < n := by
      refine Classical.byContradiction fun h5 => ?_
      rw [if_neg h5] at h
      exact h.1 rfl
    have hw' : ∀ y ∈ l, y < n := fun y hy => hw y (List.mem_cons_of_mem _ hy)
    have h1 := numS_lt n l _ h.2 hw'
    have h3 : wOf (gW n l.length s) (sW (gW n l.length s) w + numS n (nextSet n s w) l) n = w :=
      wOf_eq (hw w (by simp)) (Nat.le_add_right _ _) (by rw [sW, gW_next n _ s w, if_pos hb]; omega)
    rw [numS, List.length_cons, atS, h3, Nat.add_sub_cancel_left, atS_numS n l _ h.2 hw']

/-- The place of a list among all lists. -/
def vl (n : Nat) : List Nat → Nat
  | [] => 0
  | w :: l => w * n ^ l.length + vl n l
theorem vl_lt {n : Nat} (hn : 1 ≤ n) : ∀ {l : List Nat}, (∀ w ∈ l, w < n) → vl n l < n ^ l.length
  | [], _ => by simp [vl]
  | w :: l, h => by
    have h1 := vl_lt hn (l := l) fun y hy => h y (List.mem_cons_of_mem _ hy)
    have h2 : w + 1 ≤ n := h w (by simp)
    have h3 := Nat.mul_le_mul_right (n ^ l.length) h2
    rw [vl, List.length_cons, Nat.pow_succ, Nat.mul_comm _ n]
    rw [Nat.add_mul, Nat.one_mul] at h3
    omega
theorem vl_top {n : Nat} (hn : 1 ≤ n) : ∀ k, vl n (List.replicate k (n - 1)) + 1 = n ^ k
  | 0 => rfl
  | k + 1 => by
    have h := vl_top hn k
    obtain ⟨m, rfl⟩ : ∃ m, n = m + 1 := ⟨n - 1, by omega⟩
    rw [Nat.add_sub_cancel] at h ⊢
    rw [List.replicate_succ, vl, List.length_replicate, Nat.pow_succ, Nat.mul_comm _ (m + 1), Nat.add_mul, Nat.one_mul]
    omega
theorem vl_zero (n : Nat) : ∀ k, vl n (List.replicate k 0) = 0
  | 0 => rfl
  | k + 1 => by rw [List.replicate_succ, vl, vl_zero n k]; simp
theorem vl_next {n : Nat} (hn : 1 ≤ n) (w j : Nat) : ∀ p : List Nat, vl n (p ++ w :: List.replicate j (n - 1)) + 1 = vl n (p ++ (w + 1) :: List.replicate j 0)
  | [] => by
    simp only [List.nil_append]
    have h := vl_top hn j
    rw [vl, vl, List.length_replicate, List.length_replicate, vl_zero, Nat.add_mul, Nat.one_mul]
    omega
  | x :: p => by
    have h := vl_next hn w j p
    simp only [List.cons_append]
    rw [vl, vl]
    have hl : (p ++ w :: List.replicate j (n - 1)).length = (p ++ (w + 1) :: List.replicate j 0).length := by simp
    rw [hl]
    omega

/-- The count by its formula, for up to 5 bays. -/
theorem formula_all : (List.range 6).all (fun n => (List.range (n + 1)).all fun m => Nat.beq (((tabs n m)[0]?).getD 0) (bif Nat.beq m 0 then 1 else (n + 1 - m) * (n + 1) ^ (m - 1))) = true := by kernel_rfl
theorem formula {n m : Nat} (hn : n ≤ 5) (hm : m ≤ n) : tlF n m 0 = if m = 0 then 1 else (n + 1 - m) * (n + 1) ^ (m - 1) := by
  have h := List.all_eq_true.1 (List.all_eq_true.1 formula_all n (List.mem_range.2 (by omega))) m (List.mem_range.2 (by omega))
  rw [tlF_tabs (by omega) m, Nat.eq_of_beq_eq_true h]
  cases m <;> rfl
end Go.Proofs.Ytojblooaiojmcaa
