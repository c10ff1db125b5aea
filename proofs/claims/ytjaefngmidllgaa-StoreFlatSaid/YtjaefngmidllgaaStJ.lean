/- The finest division that is coarser than two: two ways lead to it. -/
import Derived.Test.YtjaefngmidllgaaStM2
namespace Go.Proofs.Ytjaefngmidllgaa.St
open Go Go.Proofs.Ytjaefngmidllgaa Go.Proofs.Ytjaefngmidllgaa.AX
set_option linter.unusedVariables false
def ga (l : List Nat) (i : Nat) : Nat := l.getD i 0
theorem ga_lt {l : List Nat} {i : Nat} (h : i < l.length) : ga l i = l[i] := by simp [ga, h]
def rel (a b : List Nat) (i k : Nat) : Bool := ga a i == ga a k || ga b i == ga b k
theorem rel_symm {a b : List Nat} {i k : Nat} (h : rel a b i k = true) : rel a b k i = true := by
  unfold rel at h ⊢
  simp only [Bool.or_eq_true, beq_iff_eq] at h ⊢
  rcases h with h | h
  · exact .inl h.symm
  · exact .inr h.symm
/-- Boxes that are reached from one another. -/
inductive Rj (n : Nat) (a b : List Nat) : Nat → Nat → Prop
  | refl (i : Nat) : Rj n a b i i
  | step {i k l : Nat} : Rj n a b i k → k < n → l < n → rel a b k l = true → Rj n a b i l
section
variable {n : Nat} {a b : List Nat}
theorem Rj.one {i k : Nat} (hi : i < n) (hk : k < n) (h : rel a b i k = true) : Rj n a b i k := .step (.refl i) hi hk h
theorem Rj.trans {i k l : Nat} (h : Rj n a b i k) (h2 : Rj n a b k l) : Rj n a b i l := by
  induction h2 with
  | refl => exact h
  | step _ h3 h4 h5 ih => exact .step ih h3 h4 h5
theorem Rj.symm {i k : Nat} (h : Rj n a b i k) : Rj n a b k i := by
  induction h with
  | refl => exact .refl _
  | step _ h3 h4 h5 ih => exact (Rj.one h4 h3 (rel_symm h5)).trans ih
theorem Rj.lt {i k : Nat} (h : Rj n a b i k) (hi : i < n) : k < n := by
  cases h with
  | refl => exact hi
  | step _ _ h _ => exact h
/-- All boxes with a label get another one. -/
def relab (L : List Nat) (f t : Nat) : List Nat := L.map fun x => if x = f then t else x
def stepJ (b : List Nat) (L : List Nat) (j : Nat) : List Nat := relab L (ga L j) (ga L (b.idxOf (ga b j)))
def JL (a b : List Nat) (m : Nat) : List Nat := (List.range m).foldl (stepJ b) a
theorem JL_succ (m : Nat) : JL a b (m + 1) = stepJ b (JL a b m) m := by simp [JL, List.range_succ]
theorem relab_len (L : List Nat) (f t : Nat) : (relab L f t).length = L.length := by simp [relab]
theorem JL_len (m : Nat) : (JL a b m).length = a.length := by
  induction m with
  | zero => rfl
  | succ m ih => rw [JL_succ]; simp [stepJ, relab_len, ih]
theorem ga_relab {L : List Nat} {f t i : Nat} (h : i < L.length) : ga (relab L f t) i = if ga L i = f then t else ga L i := by
  rw [ga_lt (by rw [relab_len]; exact h), ga_lt h]
  simp [relab]
theorem first_of_b (hb : b.length = n) {j : Nat} (hj : j < n) : b.idxOf (ga b j) < n ∧ ga b (b.idxOf (ga b j)) = ga b j := by
  have hm : ga b j ∈ b := by rw [ga_lt (by omega)]; exact List.getElem_mem _
  have h1 := List.idxOf_lt_length_of_mem hm
  refine ⟨by omega, ?_⟩
  rw [ga_lt h1]
  exact List.getElem_idxOf h1
theorem JL_inv (ha : a.length = n) (hb : b.length = n) : ∀ m, m ≤ n → (∀ i k, i < n → k < n → ga (JL a b m) i = ga (JL a b m) k → Rj n a b i k) ∧ (∀ i k, i < n → k < n → ga a i = ga a k → ga (JL a b m) i = ga (JL a b m) k) ∧ ∀ j, j < m → ga (JL a b m) j = ga (JL a b m) (b.idxOf (ga b j))
  | 0, _ => ⟨fun i k hi hk h => .one hi hk (by unfold rel; simp [show ga a i = ga a k from h]), fun i k _ _ h => h, fun j h => by omega⟩
  | m + 1, hm => by
    obtain ⟨h1, h2, h3⟩ := JL_inv ha hb m (by omega)
    have hl : (JL a b m).length = n := by rw [JL_len, ha]
    obtain ⟨f1, f2⟩ := first_of_b hb (show m < n by omega)
    have hg : ∀ i, i < n → ga (JL a b (m + 1)) i = if ga (JL a b m) i = ga (JL a b m) m then ga (JL a b m) (b.idxOf (ga b m)) else ga (JL a b m) i := fun i hi => by
      rw [JL_succ]; exact ga_relab (by omega)
    have hmf : Rj n a b m (b.idxOf (ga b m)) := .one (by omega) f1 (by unfold rel; simp [f2])
    refine ⟨fun i k hi hk h => ?_, fun i k hi hk h => ?_, fun j hj => ?_⟩
    · rw [hg i hi, hg k hk] at h
      split at h
      · rename_i c1
        split at h
        · rename_i c2
          exact h1 i k hi hk (by rw [c1, c2])
        · exact ((h1 i m hi (by omega) c1).trans hmf).trans (h1 _ k f1 hk h)
      · split at h
        · rename_i c2
          exact ((h1 i _ hi f1 h).trans hmf.symm).trans (h1 m k (by omega) hk c2.symm)
        · exact h1 i k hi hk h
    · rw [hg i hi, hg k hk, h2 i k hi hk h]
    · by_cases e : j = m
      · subst e
        rw [hg j (by omega), hg _ f1, if_pos rfl]
        split <;> rfl
      · obtain ⟨g1, -⟩ := first_of_b hb (show j < n by omega)
        rw [hg j (by omega), hg _ g1, h3 j (by omega)]
/-- The program's way. -/
theorem JL_ker (ha : a.length = n) (hb : b.length = n) {i k : Nat} (hi : i < n) (hk : k < n) : ga (JL a b n) i = ga (JL a b n) k ↔ Rj n a b i k := by
  obtain ⟨h1, h2, h3⟩ := JL_inv ha hb n (Nat.le_refl _)
  refine ⟨h1 i k hi hk, fun h => ?_⟩
  induction h with
  | refl => rfl
  | step hr h4 h5 h6 ih =>
    rename_i l m
    rw [ih h4]
    unfold rel at h6
    simp only [Bool.or_eq_true, beq_iff_eq] at h6
    rcases h6 with h6 | h6
    · exact h2 _ _ h4 h5 h6
    · rw [h3 _ h4, h3 _ h5, h6]
/-- The reference's way: the smallest box that can be reached. -/
def stepR (a b : List Nat) (i : Nat) (L : List Nat) (k : Nat) : List Nat := if rel a b i k then L.set i (min (ga L i) (ga L k)) else L
def rowR (a b : List Nat) (i m : Nat) (L : List Nat) : List Nat := (List.range m).foldl (stepR a b i) L
def rndR (a b : List Nat) (n m : Nat) (L : List Nat) : List Nat := (List.range m).foldl (fun L i => rowR a b i n L) L
def RL (a b : List Nat) (n : Nat) : Nat → List Nat
  | 0 => List.range n
  | r + 1 => rndR a b n n (RL a b n r)
theorem rowR_succ (i m : Nat) (L : List Nat) : rowR a b i (m + 1) L = stepR a b i (rowR a b i m L) m := by simp [rowR, List.range_succ]
theorem rndR_succ (m : Nat) (L : List Nat) : rndR a b n (m + 1) L = rowR a b m n (rndR a b n m L) := by simp [rndR, List.range_succ]
/-- Not greater, anywhere. -/
def Sm (L' L : List Nat) : Prop := L'.length = L.length ∧ ∀ j, ga L' j ≤ ga L j
theorem Sm.refl (L : List Nat) : Sm L L := ⟨rfl, fun _ => Nat.le_refl _⟩
theorem Sm.trans {A B C : List Nat} (h : Sm A B) (k : Sm B C) : Sm A C := ⟨h.1.trans k.1, fun j => Nat.le_trans (h.2 j) (k.2 j)⟩
theorem ga_set {L : List Nat} {i j x : Nat} (h : i < L.length) : ga (L.set i x) j = if i = j then x else ga L j := by
  unfold ga
  rw [List.getD_eq_getElem?_getD, List.getElem?_set]
  by_cases e : i = j
  · subst e; simp [h]
  · simp [e, List.getD_eq_getElem?_getD]
theorem stepR_sm {i : Nat} {L : List Nat} (h : i < L.length) (k : Nat) : Sm (stepR a b i L k) L := by
  unfold stepR
  split
  · refine ⟨by simp, fun j => ?_⟩
    rw [ga_set h]
    split
    · rename_i e; subst e; exact Nat.min_le_left _ _
    · exact Nat.le_refl _
  · exact .refl _
theorem rowR_sm {i : Nat} {L : List Nat} (h : i < L.length) : ∀ m, Sm (rowR a b i m L) L
  | 0 => .refl _
  | m + 1 => by
    have ih := rowR_sm h m
    rw [rowR_succ]
    exact (stepR_sm (by rw [ih.1]; exact h) m).trans ih
theorem rndR_sm {L : List Nat} (h : L.length = n) : ∀ m, m ≤ n → Sm (rndR a b n m L) L
  | 0, _ => .refl _
  | m + 1, hm => by
    have ih := rndR_sm h m (by omega)
    rw [rndR_succ]
    exact (rowR_sm (by rw [ih.1]; omega) n).trans ih
theorem rowR_le {i : Nat} {L : List Nat} (h : i < L.length) {k : Nat} (hr : rel a b i k = true) : ∀ m, k < m → ga (rowR a b i m L) i ≤ ga L k
  | m + 1, hk => by
    rw [rowR_succ]
    have hs := rowR_sm (a := a) (b := b) h m
    by_cases e : k = m
    · subst e
      unfold stepR
      rw [if_pos hr, ga_set (by rw [hs.1]; exact h), if_pos rfl]
      exact Nat.le_trans (Nat.min_le_right _ _) (hs.2 k)
    · exact Nat.le_trans ((stepR_sm (by rw [hs.1]; exact h) m).2 i) (rowR_le h hr m (by omega))
theorem rndR_le {L : List Nat} (h : L.length = n) {i k : Nat} (hk : k < n) (hr : rel a b i k = true) : ∀ m, m ≤ n → i < m → ga (rndR a b n m L) i ≤ ga L k
  | m + 1, hm, hi => by
    rw [rndR_succ]
    have hs := rndR_sm (a := a) (b := b) h m (by omega)
    by_cases e : i = m
    · subst e
      exact Nat.le_trans (rowR_le (by rw [hs.1]; omega) hr n hk) (hs.2 k)
    · exact Nat.le_trans ((rowR_sm (by rw [hs.1]; omega) n).2 i) (rndR_le h hk hr m (by omega) (by omega))
theorem RL_len : ∀ r, (RL a b n r).length = n
  | 0 => by simp [RL]
  | r + 1 => by
    have := rndR_sm (a := a) (b := b) (RL_len r) n (Nat.le_refl _)
    exact this.1.trans (RL_len r)
/-- A label is a box that can be reached. -/
def Rl (n : Nat) (a b L : List Nat) : Prop := ∀ i, i < n → Rj n a b i (ga L i)
theorem stepR_rl {i k : Nat} {L : List Nat} (hl : L.length = n) (hi : i < n) (hk : k < n) (h : Rl n a b L) : Rl n a b (stepR a b i L k) := by
  unfold stepR
  split
  · rename_i c
    intro j hj
    rw [ga_set (by omega)]
    split
    · rename_i e
      subst e
      rcases Nat.le_total (ga L i) (ga L k) with h1 | h1
      · rw [Nat.min_eq_left h1]; exact h i hi
      · rw [Nat.min_eq_right h1]; exact (Rj.one hi hk c).trans (h k hk)
    · exact h j hj
  · exact h
theorem rowR_rl {i : Nat} {L : List Nat} (hl : L.length = n) (hi : i < n) (h : Rl n a b L) : ∀ m, m ≤ n → Rl n a b (rowR a b i m L)
  | 0, _ => h
  | m + 1, hm => by
    rw [rowR_succ]
    exact stepR_rl (by rw [(rowR_sm (by omega) m).1, hl]) hi (by omega) (rowR_rl hl hi h m (by omega))
theorem rndR_rl {L : List Nat} (hl : L.length = n) (h : Rl n a b L) : ∀ m, m ≤ n → Rl n a b (rndR a b n m L)
  | 0, _ => h
  | m + 1, hm => by
    rw [rndR_succ]
    exact rowR_rl (by rw [(rndR_sm hl m (by omega)).1, hl]) (by omega) (rndR_rl hl h m (by omega)) n (Nat.le_refl _)
theorem RL_rl : ∀ r, Rl n a b (RL a b n r)
  | 0 => fun i hi => by
    have : ga (RL a b n 0) i = i := by rw [ga_lt (by simpa [RL] using hi)]; simp [RL]
    rw [this]
    exact .refl i
  | r + 1 => rndR_rl (RL_len r) (RL_rl r) n (Nat.le_refl _)
theorem cnt_lt {p q : Nat → Bool} : ∀ {l : List Nat} {x : Nat}, (∀ y ∈ l, p y = true → q y = true) → x ∈ l → p x = false → q x = true → l.countP p < l.countP q
  | [], x, _, hx, _, _ => by simp at hx
  | y :: l, x, h, hx, hp, hq => by
    have hle : l.countP p ≤ l.countP q := List.countP_mono_left fun z hz hpz => h z (by simp [hz]) hpz
    rw [List.countP_cons, List.countP_cons]
    rcases List.mem_cons.1 hx with rfl | hx
    · rw [hp, hq]; simp; omega
    · have := cnt_lt (fun z hz => h z (by simp [hz])) hx hp hq
      have h2 := h y (by simp)
      cases c : p y with
      | false => simp; omega
      | true => rw [h2 c]; simp; omega
theorem RL_grow {m : Nat} (hm : m < n) (hmin : ∀ i, Rj n a b m i → m ≤ i) : ∀ r, (∀ i, i < n → Rj n a b m i → ga (RL a b n r) i = m) ∨ r + 1 ≤ (List.range n).countP fun i => ga (RL a b n r) i == m
  | 0 => .inr (by
    refine List.countP_pos_iff.2 ⟨m, by simpa using hm, ?_⟩
    simp [RL, ga, hm])
  | r + 1 => by
    have hs := rndR_sm (a := a) (b := b) (RL_len (a := a) (b := b) (n := n) r) n (Nat.le_refl _)
    have hge : ∀ i, i < n → Rj n a b m i → m ≤ ga (RL a b n (r + 1)) i := fun i hi h => hmin _ (h.trans (RL_rl (r + 1) i hi))
    by_cases c : ∀ i, i < n → Rj n a b m i → ga (RL a b n r) i = m
    · refine .inl fun i hi h => ?_
      have h1 := hs.2 i
      have h2 := c i hi h
      have h3 := hge i hi h
      have : ga (RL a b n (r + 1)) i ≤ ga (RL a b n r) i := h1
      omega
    · have hc := (RL_grow hm hmin r).resolve_left c
      obtain ⟨k, l, hk, hl, hkl, e1, e2, hml⟩ : ∃ k l, k < n ∧ l < n ∧ rel a b k l = true ∧ ga (RL a b n r) k = m ∧ ga (RL a b n r) l ≠ m ∧ Rj n a b m l := by
        have e0 : ga (RL a b n r) m = m := by
          have h1 := hmin _ (RL_rl (a := a) (b := b) r m hm)
          have : ∀ r, ga (RL a b n r) m ≤ m := by
            intro r
            induction r with
            | zero => simp [RL, ga, hm]
            | succ r ih => exact Nat.le_trans ((rndR_sm (RL_len r) n (Nat.le_refl _)).2 m) ih
          have := this r
          omega
        apply Classical.byContradiction
        intro hno
        refine c fun i hi h => ?_
        have : ∀ i, Rj n a b m i → ga (RL a b n r) i = m := by
          intro i h
          induction h with
          | refl => exact e0
          | step h1 h2 h3 h4 ih =>
            apply Classical.byContradiction
            intro hne
            exact hno ⟨_, _, h2, h3, h4, ih, hne, .step h1 h2 h3 h4⟩
        exact this i h
      refine .inr (Nat.succ_le_of_lt (Nat.lt_of_le_of_lt hc (cnt_lt (x := l) (fun y hy h => ?_) (by simpa using hl) (by simpa using e2) ?_)))
      · simp only [beq_iff_eq] at h ⊢
        have hy' : y < n := by simpa using hy
        have h1 : ga (RL a b n (r + 1)) y ≤ ga (RL a b n r) y := hs.2 y
        have h2 : Rj n a b m y := by have := RL_rl (a := a) (b := b) r y hy'; rw [h] at this; exact this.symm
        have := hge y hy' h2
        omega
      · simp only [beq_iff_eq]
        have h1 : ga (RL a b n (r + 1)) l ≤ ga (RL a b n r) k := rndR_le (RL_len r) hk (rel_symm hkl) n (Nat.le_refl _) hl
        have := hge l hl hml
        omega
theorem least_of {P : Nat → Prop} {i : Nat} (h : P i) : ∃ m, P m ∧ ∀ j, P j → m ≤ j := by
  induction i using Nat.strongRecOn with
  | ind i ih =>
    by_cases c : ∃ j, j < i ∧ P j
    · obtain ⟨j, h1, h2⟩ := c; exact ih j h1 h2
    · refine ⟨i, h, fun j hj => ?_⟩
      apply Classical.byContradiction
      intro hlt
      exact c ⟨j, by omega, hj⟩
theorem RL_ker {i k : Nat} (hi : i < n) (hk : k < n) : ga (RL a b n n) i = ga (RL a b n n) k ↔ Rj n a b i k := by
  constructor
  · intro h
    have h1 := RL_rl (a := a) (b := b) n i hi
    have h2 := RL_rl (a := a) (b := b) n k hk
    rw [h] at h1
    exact h1.trans h2.symm
  · intro h
    obtain ⟨m, h1, h2⟩ := least_of (P := fun j => Rj n a b i j) (.refl i)
    have hm := h1.lt hi
    have hmin : ∀ j, Rj n a b m j → m ≤ j := fun j hj => h2 j (h1.trans hj)
    have hall := (RL_grow hm hmin n).resolve_right (by
      have := List.countP_le_length (p := fun i => ga (RL a b n n) i == m) (l := List.range n)
      simp only [List.length_range] at this
      omega)
    rw [hall i hi h1.symm, hall k hk (h1.symm.trans h)]
/-- Both ways lead to one division. -/
theorem join_same (ha : a.length = n) (hb : b.length = n) : dv (JL a b n) = dv (RL a b n n) := by
  have hl : (JL a b n).length = n := by rw [JL_len, ha]
  refine dv_congr _ _ (by rw [hl, RL_len]) fun i j hi hj => ?_
  rw [← ga_lt hi, ← ga_lt hj, ← ga_lt (l := RL a b n n) (by rw [RL_len]; omega), ← ga_lt (l := RL a b n n) (by rw [RL_len]; omega), JL_ker ha hb (by omega) (by omega), RL_ker (by omega) (by omega)]
end
end Go.Proofs.Ytjaefngmidllgaa.St
