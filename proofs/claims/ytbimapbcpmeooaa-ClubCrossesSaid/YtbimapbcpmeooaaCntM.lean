/- How many plans of counts there are: the order of counts does not matter; none just if there is none. Pure. -/
import Derived.Test.YtbimapbcpmeooaaHakM
namespace Go.Proofs.Ytbimapbcpmeooaa.Cl
set_option linter.unusedVariables false
/-- The sum over all sets of places with a count left: how many there are in the set, and what is left of the counts. -/
def subs : List Nat → (Nat → List Nat → Nat) → Nat
  | [], f => f 0 []
  | y :: l, f => subs l (fun k m => f k (y :: m)) + if 0 < y then subs l (fun k m => f (k + 1) ((y - 1) :: m)) else 0
def cnt : Nat → List Nat → Nat
  | 0, _ => 1
  | _ + 1, [] => 1
  | k + 1, x :: l => subs l fun s m => if s = x then cnt k m else 0
theorem subs_congr : ∀ {l : List Nat} {f g : Nat → List Nat → Nat}, (∀ s m, m.length = l.length → f s m = g s m) → subs l f = subs l g
  | [], f, g, h => h 0 [] rfl
  | y :: l, f, g, h => by
    unfold subs
    rw [subs_congr (l := l) (f := fun k m => f k (y :: m)) (g := fun k m => g k (y :: m)) fun s m hm => h s _ (by simp [hm]),
      subs_congr (l := l) (f := fun k m => f (k + 1) ((y - 1) :: m)) (g := fun k m => g (k + 1) ((y - 1) :: m)) fun s m hm => h _ _ (by simp [hm])]
theorem subs_add : ∀ (l : List Nat) (f g : Nat → List Nat → Nat), subs l (fun s m => f s m + g s m) = subs l f + subs l g
  | [], f, g => rfl
  | y :: l, f, g => by
    unfold subs
    rw [subs_add l (fun k m => f k (y :: m)) fun k m => g k (y :: m), subs_add l (fun k m => f (k + 1) ((y - 1) :: m)) fun k m => g (k + 1) ((y - 1) :: m)]
    split <;> omega
theorem subs_zero : ∀ l : List Nat, subs l (fun _ _ => 0) = 0
  | [] => rfl
  | y :: l => by unfold subs; rw [subs_zero l]; simp
theorem subs_if (c : Prop) [Decidable c] (l : List Nat) (f : Nat → List Nat → Nat) : subs l (fun s m => if c then f s m else 0) = if c then subs l f else 0 := by
  by_cases h : c
  · simp [h]
  · simp [h, subs_zero]
/-- What does not ask for the order: another order, the same sum. -/
theorem subs_perm {l l' : List Nat} (h : l.Perm l') : ∀ {f : Nat → List Nat → Nat}, (∀ s m m', m.Perm m' → m.length = l.length → f s m = f s m') → subs l f = subs l' f := by
  induction h with
  | nil => intro f _; rfl
  | @cons y l l' hp ih =>
    intro f hf
    unfold subs
    rw [ih (f := fun k m => f k (y :: m)) fun s m m' hm hl => hf s _ _ (hm.cons y) (by simp [hl]),
      ih (f := fun k m => f (k + 1) ((y - 1) :: m)) fun s m m' hm hl => hf _ _ _ (hm.cons _) (by simp [hl])]
  | swap x y l =>
    intro f hf
    unfold subs
    unfold subs
    rw [subs_congr (l := l) (f := fun k m => f k (y :: x :: m)) (g := fun k m => f k (x :: y :: m)) fun s m hm => hf s _ _ (.swap _ _ _) (by simp [hm]),
      subs_congr (l := l) (f := fun k m => f (k + 1) (y :: (x - 1) :: m)) (g := fun k m => f (k + 1) ((x - 1) :: y :: m)) fun s m hm => hf _ _ _ (.swap _ _ _) (by simp [hm]),
      subs_congr (l := l) (f := fun k m => f (k + 1) ((y - 1) :: x :: m)) (g := fun k m => f (k + 1) (x :: (y - 1) :: m)) fun s m hm => hf _ _ _ (.swap _ _ _) (by simp [hm]),
      subs_congr (l := l) (f := fun k m => f (k + 1 + 1) ((y - 1) :: (x - 1) :: m)) (g := fun k m => f (k + 1 + 1) ((x - 1) :: (y - 1) :: m)) fun s m hm => hf _ _ _ (.swap _ _ _) (by simp [hm])]
    dsimp only
    split <;> split <;> omega
  | @trans l m o h1 h2 ih1 ih2 =>
    intro f hf
    rw [ih1 hf, ih2 fun s m m' hm hl => hf s m m' hm (by rw [hl, h1.length_eq])]
/-- Two sets one after the other: in either order. -/
theorem subs_comm : ∀ (l : List Nat) (h : Nat → Nat → List Nat → Nat), subs l (fun s m => subs m (h s)) = subs l (fun s m => subs m fun t o => h t s o)
  | [], h => rfl
  | y :: l, h => by
    have e : ∀ h : Nat → Nat → List Nat → Nat, subs (y :: l) (fun s m => subs m (h s)) =
        subs l (fun s m => subs m fun t o => h s t (y :: o)) + (if 0 < y then subs l (fun s m => subs m fun t o => h s (t + 1) ((y - 1) :: o)) else 0) +
        ((if 0 < y then subs l (fun s m => subs m fun t o => h (s + 1) t ((y - 1) :: o)) else 0) + if 0 < y then (if 0 < y - 1 then subs l (fun s m => subs m fun t o => h (s + 1) (t + 1) ((y - 1 - 1) :: o)) else 0) else 0) := by
      intro h
      have e1 : subs l (fun k m => subs (y :: m) (h k)) = subs l (fun s m => subs m fun t o => h s t (y :: o)) + if 0 < y then subs l (fun s m => subs m fun t o => h s (t + 1) ((y - 1) :: o)) else 0 := by
        rw [← subs_if, ← subs_add]; rfl
      have e2 : subs l (fun k m => subs ((y - 1) :: m) (h (k + 1))) = subs l (fun s m => subs m fun t o => h (s + 1) t ((y - 1) :: o)) + if 0 < y - 1 then subs l (fun s m => subs m fun t o => h (s + 1) (t + 1) ((y - 1 - 1) :: o)) else 0 := by
        rw [← subs_if, ← subs_add]; rfl
      show subs l (fun k m => subs (y :: m) (h k)) + (if 0 < y then subs l (fun k m => subs ((y - 1) :: m) (h (k + 1))) else 0) = _
      rw [e1, e2]
      by_cases c : 0 < y <;> simp only [c, if_true, if_false]
    rw [e h, e fun s t o => h t s o]
    rw [subs_comm l fun s t o => h s t (y :: o), subs_comm l fun s t o => h s (t + 1) ((y - 1) :: o), subs_comm l fun s t o => h (s + 1) t ((y - 1) :: o), subs_comm l fun s t o => h (s + 1) (t + 1) ((y - 1 - 1) :: o)]
    omega
theorem cnt_two (k x y : Nat) (l : List Nat) : cnt (k + 2) (y :: x :: l) = subs l (fun s m => subs m fun t o => if s = y ∧ t = x then cnt k o else 0) + subs l (fun s m => subs m fun t o => if s + 1 = y ∧ t + 1 = x then cnt k o else 0) := by
  show subs l (fun s m => if s = y then subs m (fun t o => if t = x then cnt k o else 0) else 0) + (if 0 < x then subs l (fun s m => if s + 1 = y then subs m (fun t o => if t = x - 1 then cnt k o else 0) else 0) else 0) = _
  congr 1
  · refine subs_congr fun s m _ => ?_
    rw [← subs_if]
    refine subs_congr fun t o _ => ?_
    by_cases c : s = y <;> simp [c]
  · rw [← subs_if]
    refine subs_congr fun s m _ => ?_
    rw [← subs_if, ← subs_if]
    refine subs_congr fun t o _ => ?_
    by_cases e : 0 < x
    · rw [if_pos e]
      by_cases c : s + 1 = y
      · have d : (t = x - 1) = (t + 1 = x) := propext (by omega)
        simp only [c, d, true_and, if_true]
      · simp only [c, false_and, if_false]
    · rw [if_neg e]
      have d : ¬ (s + 1 = y ∧ t + 1 = x) := by omega
      simp only [d, if_false]
theorem cnt_perm : ∀ (k : Nat) {l l' : List Nat}, l.Perm l' → l.length = k → cnt k l = cnt k l' := by
  intro k
  induction k using Nat.strongRecOn with
  | ind k ih =>
    intro l l' h
    induction h with
    | nil => intro _; rfl
    | @cons x l l' hp _ =>
      intro hl
      obtain ⟨k, rfl⟩ : ∃ k', k = k' + 1 := ⟨l.length, by simpa using hl.symm⟩
      unfold cnt
      refine subs_perm hp fun s m m' hm hml => ?_
      rw [ih k (by omega) hm (by rw [hml]; simpa using hl)]
    | swap x y l =>
      intro hl
      obtain ⟨k, rfl⟩ : ∃ k', k = k' + 2 := ⟨l.length, by simpa using hl.symm⟩
      rw [cnt_two, cnt_two, subs_comm l, subs_comm l (fun s t o => if s + 1 = y ∧ t + 1 = x then cnt k o else 0)]
      simp only [and_comm]
    | @trans l m o h1 h2 ih1 ih2 =>
      intro hl
      rw [ih1 hl, ih2 (by rw [← h1.length_eq, hl])]
/-- A sum that is not 0: some set. -/
theorem subs_pos : ∀ {l : List Nat} {f : Nat → List Nat → Nat}, 0 < subs l f ↔ ∃ T : Nat → Bool, (∀ i (hi : i < l.length), T i = true → 0 < l[i]) ∧ 0 < f ((List.range l.length).countP T) ((List.range l.length).map fun i => l.getD i 0 - if T i then 1 else 0)
  | [], f => by simp [subs]
  | y :: l, f => by
    unfold subs
    have cs : ∀ T : Nat → Bool, (List.range (y :: l).length).countP T = (if T 0 then 1 else 0) + (List.range l.length).countP fun i => T (i + 1) := fun T => cnt_succ T l.length
    have ms : ∀ T : Nat → Bool, ((List.range (y :: l).length).map fun i => (y :: l).getD i 0 - if T i then 1 else 0) = (y - if T 0 then 1 else 0) :: (List.range l.length).map fun i => l.getD i 0 - if T (i + 1) then 1 else 0 := fun T => by
      rw [List.length_cons, List.range_succ_eq_map, List.map_cons, List.map_map]
      rfl
    constructor
    · intro h
      have h2 : 0 < subs l (fun k m => f k (y :: m)) ∨ (0 < y ∧ 0 < subs l (fun k m => f (k + 1) ((y - 1) :: m))) := by
        by_cases c : 0 < y
        · rw [if_pos c] at h; omega
        · rw [if_neg c] at h; left; omega
      rcases h2 with h2 | ⟨hy, h2⟩
      · obtain ⟨T, t1, t2⟩ := subs_pos.1 h2
        refine ⟨fun i => match i with | 0 => false | i + 1 => T i, fun i hi ht => ?_, ?_⟩
        · cases i with
          | zero => cases ht
          | succ i => exact t1 i (by simpa using hi) ht
        · rw [cs, ms]; simpa using t2
      · obtain ⟨T, t1, t2⟩ := subs_pos.1 h2
        refine ⟨fun i => match i with | 0 => true | i + 1 => T i, fun i hi ht => ?_, ?_⟩
        · cases i with
          | zero => exact hy
          | succ i => exact t1 i (by simpa using hi) ht
        · rw [cs, ms]
          simp only [if_true]
          rw [Nat.add_comm 1]
          exact t2
    · rintro ⟨T, t1, t2⟩
      rw [cs, ms] at t2
      have hT : ∀ i (hi : i < l.length), T (i + 1) = true → 0 < l[i] := fun i hi ht => t1 (i + 1) (by simp; omega) ht
      cases c : T 0 with
      | false =>
        rw [c] at t2
        have := (subs_pos (l := l) (f := fun k m => f k (y :: m))).2 ⟨fun i => T (i + 1), hT, by simpa using t2⟩
        omega
      | true =>
        rw [c] at t2
        have hy : 0 < y := t1 0 (by simp) c
        simp only [if_true] at t2
        rw [Nat.add_comm 1] at t2
        have := (subs_pos (l := l) (f := fun k m => f (k + 1) ((y - 1) :: m))).2 ⟨fun i => T (i + 1), hT, t2⟩
        rw [if_pos hy]
        omega
/-- Some plan just if there is one. -/
theorem cnt_real : ∀ (k : Nat) (l : List Nat), l.length = k → (0 < cnt k l ↔ real l)
  | 0, l, hl => by
    obtain rfl : l = [] := List.length_eq_zero_iff.1 hl
    simp [cnt, real_nil]
  | k + 1, [], hl => by simp at hl
  | k + 1, x :: l, hl => by
    simp only [List.length_cons, Nat.add_right_cancel_iff] at hl
    unfold cnt
    rw [subs_pos]
    constructor
    · rintro ⟨T, t1, t2⟩
      split at t2
      · rename_i c
        refine real_cons (fun i => match i with | 0 => false | i + 1 => T i) rfl ?_ (fun i hi ht => t1 i hi ht) ?_
        · rw [cnt_succ]; simpa using c
        · exact (cnt_real k _ (by simp [take1, hl])).1 t2
      · cases t2
    · rintro ⟨g, hg, hd⟩
      obtain ⟨h1, h2, h3⟩ := real_tail hg hd
      refine ⟨fun i => g 0 (i + 1), h3, ?_⟩
      rw [cnt_succ, hg.irr] at h2
      rw [if_pos (by simpa using h2)]
      exact (cnt_real k _ (by simp [hl])).2 h1
end Go.Proofs.Ytbimapbcpmeooaa.Cl
