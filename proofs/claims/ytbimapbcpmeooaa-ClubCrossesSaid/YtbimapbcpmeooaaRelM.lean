/- Counts in another order have plans just if they had (pure). -/
import Derived.Test.YtbimapbcpmeooaaHavM
namespace Go.Proofs.Ytbimapbcpmeooaa.Cl
set_option linter.unusedVariables false
/-- There is a plan of counts. -/
def real (l : List Nat) : Prop := ∃ g, Gr g ∧ ∀ v (h : v < l.length), deg l.length g v = l[v]
/-- Other numbers for all below n. -/
structure Rel (n : Nat) (f t : Nat → Nat) : Prop where
  fl : ∀ i, i < n → f i < n
  tl : ∀ i, i < n → t i < n
  ft : ∀ i, i < n → f (t i) = i
  tf : ∀ i, i < n → t (f i) = i
theorem Rel.symm {n : Nat} {f t : Nat → Nat} (h : Rel n f t) : Rel n t f := ⟨h.tl, h.fl, h.tf, h.ft⟩
theorem rel_range {n : Nat} {f t : Nat → Nat} (h : Rel n f t) : ((List.range n).map f).Perm (List.range n) := by
  refine (List.perm_ext_iff_of_nodup ?_ List.nodup_range).2 fun x => ?_
  · unfold List.Nodup
    rw [List.pairwise_map]
    refine List.nodup_range.imp_of_mem fun {a b} ha hb hne e => hne ?_
    rw [← h.tf a (List.mem_range.1 ha), ← h.tf b (List.mem_range.1 hb), e]
  · rw [List.mem_map, List.mem_range]
    constructor
    · rintro ⟨a, ha, rfl⟩; exact h.fl a (List.mem_range.1 ha)
    · intro hx; exact ⟨t x, List.mem_range.2 (h.tl x hx), h.ft x hx⟩
theorem rel_cnt {n : Nat} {f t : Nat → Nat} (h : Rel n f t) (p : Nat → Bool) : (List.range n).countP (fun x => p (f x)) = (List.range n).countP p := by
  rw [← (rel_range h).countP_eq p, List.countP_map]; rfl
theorem rel_deg {n : Nat} {f t : Nat → Nat} (h : Rel n f t) (g : Nat → Nat → Bool) (v : Nat) : deg n (fun a b => g (f a) (f b)) v = deg n g (f v) := rel_cnt h (g (f v))
theorem rel_gr {f : Nat → Nat} {g : Nat → Nat → Bool} (hg : Gr g) : Gr fun a b => g (f a) (f b) := ⟨fun a b => hg.sym _ _, fun a => hg.irr _⟩
/-- Lists that are the same but for the order: other numbers for the places. -/
theorem perm_rel : ∀ {l m : List Nat}, l.Perm m → ∃ f t, Rel l.length f t ∧ ∀ i (hi : i < m.length), ∃ hj : f i < l.length, m[i] = l[f i] := by
  intro l m h
  induction h with
  | nil => exact ⟨id, id, ⟨fun i h => h, fun i h => h, fun i h => rfl, fun i h => rfl⟩, fun i hi => by simp at hi⟩
  | @cons x l m hp ih =>
    obtain ⟨f, t, hr, hm⟩ := ih
    refine ⟨fun i => match i with | 0 => 0 | i + 1 => f i + 1, fun i => match i with | 0 => 0 | i + 1 => t i + 1, ⟨?_, ?_, ?_, ?_⟩, ?_⟩
    · intro i hi
      cases i with
      | zero => simp
      | succ i => have := hr.fl i (by simpa using hi); simp; omega
    · intro i hi
      cases i with
      | zero => simp
      | succ i => have := hr.tl i (by simpa using hi); simp; omega
    · intro i hi
      cases i with
      | zero => rfl
      | succ i => have := hr.ft i (by simpa using hi); simp [this]
    · intro i hi
      cases i with
      | zero => rfl
      | succ i => have := hr.tf i (by simpa using hi); simp [this]
    · intro i hi
      cases i with
      | zero => exact ⟨by simp, rfl⟩
      | succ i =>
        obtain ⟨hj, e⟩ := hm i (by simpa using hi)
        exact ⟨by simp; omega, by simpa using e⟩
  | swap x y l =>
    refine ⟨fun i => if i = 0 then 1 else if i = 1 then 0 else i, fun i => if i = 0 then 1 else if i = 1 then 0 else i, ⟨?_, ?_, ?_, ?_⟩, ?_⟩
    · intro i hi; simp only [List.length_cons] at hi ⊢; repeat' split
      all_goals omega
    · intro i hi; simp only [List.length_cons] at hi ⊢; repeat' split
      all_goals omega
    · intro i hi
      match i with
      | 0 => rfl
      | 1 => rfl
      | i + 2 => simp
    · intro i hi
      match i with
      | 0 => rfl
      | 1 => rfl
      | i + 2 => simp
    · intro i hi
      match i with
      | 0 => exact ⟨by simp, rfl⟩
      | 1 => exact ⟨by simp, rfl⟩
      | i + 2 => exact ⟨by simpa using hi, by simp⟩
  | @trans l m o h1 h2 ih1 ih2 =>
    obtain ⟨f, t, hr, hm⟩ := ih1
    obtain ⟨f2, t2, hr2, hm2⟩ := ih2
    have hl := h1.length_eq
    rw [← hl] at hr2
    refine ⟨fun i => f (f2 i), fun i => t2 (t i), ⟨fun i hi => hr.fl _ (hr2.fl i hi), fun i hi => hr2.tl _ (hr.tl i hi), fun i hi => ?_, fun i hi => ?_⟩, fun i hi => ?_⟩
    · rw [hr2.ft _ (hr.tl i hi), hr.ft i hi]
    · rw [hr.tf _ (hr2.fl i hi), hr2.tf i hi]
    · obtain ⟨j1, e1⟩ := hm2 i hi
      obtain ⟨j2, e2⟩ := hm (f2 i) j1
      exact ⟨j2, by rw [e1, e2]⟩
theorem real_perm' {l m : List Nat} (h : l.Perm m) (hr : real l) : real m := by
  obtain ⟨g, hg, hd⟩ := hr
  obtain ⟨f, t, hrel, hm⟩ := perm_rel h
  have hl := h.length_eq
  refine ⟨fun a b => g (f a) (f b), rel_gr hg, fun v hv => ?_⟩
  obtain ⟨hj, e⟩ := hm v hv
  rw [← hl, rel_deg hrel, hd _ hj, e]
theorem real_perm {l m : List Nat} (h : l.Perm m) : real l ↔ real m := ⟨real_perm' h, real_perm' h.symm⟩
/-- The first one sits with a set of the others: what is left of these. -/
def take1 (T : Nat → Bool) (l : List Nat) : List Nat := (List.range l.length).map fun i => l.getD i 0 - (if T (i + 1) then 1 else 0)
theorem cnt_succ (p : Nat → Bool) (n : Nat) : (List.range (n + 1)).countP p = (if p 0 then 1 else 0) + (List.range n).countP fun i => p (i + 1) := by
  rw [List.range_succ_eq_map, List.countP_cons, List.countP_map]
  have : (p ∘ Nat.succ) = fun i => p (i + 1) := rfl
  rw [this]; omega
/-- A plan of the others and a set for the first one make a plan. -/
theorem real_cons {x : Nat} {l : List Nat} (T : Nat → Bool) (h0 : T 0 = false) (hx : (List.range (l.length + 1)).countP T = x) (hpos : ∀ i (hi : i < l.length), T (i + 1) = true → 0 < l[i]) (h : real (take1 T l)) : real (x :: l) := by
  obtain ⟨g, hg, hd⟩ := h
  have hl : (take1 T l).length = l.length := by simp [take1]
  have hd : ∀ v (hv : v < l.length), deg l.length g v = (take1 T l)[v]'(by omega) := fun v hv => by
    have := hd v (by omega)
    simpa only [hl] using this
  let g' : Nat → Nat → Bool := fun a b => match a, b with
    | 0, 0 => false
    | 0, b + 1 => T (b + 1)
    | a + 1, 0 => T (a + 1)
    | a + 1, b + 1 => g a b
  refine ⟨g', ⟨fun a b => ?_, fun a => ?_⟩, fun v hv => ?_⟩
  · cases a <;> cases b <;> simp [g', hg.sym]
  · cases a <;> simp [g', hg.irr]
  · unfold deg
    rw [List.length_cons, cnt_succ]
    cases v with
    | zero =>
      rw [cnt_succ, h0] at hx
      simp only [g', List.getElem_cons_zero]
      simpa using hx
    | succ v =>
      simp only [List.length_cons] at hv
      have h1 := hd v (by omega)
      unfold deg at h1
      simp only [g', List.getElem_cons_succ]
      rw [h1]
      have hv' : v < l.length := by omega
      have hp := hpos v hv'
      simp only [take1, List.getElem_map, List.getElem_range, List.getD_eq_getElem?_getD, List.getElem?_eq_getElem hv', Option.getD_some]
      by_cases c : T (v + 1) = true
      · have := hp c; rw [if_pos c]; omega
      · rw [if_neg c]; omega
/-- A plan in which the first one sits with a set: what is left has a plan. -/
theorem real_tail {x : Nat} {l : List Nat} {g : Nat → Nat → Bool} (hg : Gr g) (hd : ∀ v (h : v < (x :: l).length), deg (x :: l).length g v = (x :: l)[v]) : real (take1 (g 0) l) ∧ (List.range (l.length + 1)).countP (g 0) = x ∧ ∀ i (hi : i < l.length), g 0 (i + 1) = true → 0 < l[i] := by
  have hl : (take1 (g 0) l).length = l.length := by simp [take1]
  have key : ∀ v (hv : v < l.length), (if g 0 (v + 1) then 1 else 0) + deg l.length (fun a b => g (a + 1) (b + 1)) v = l[v] := fun v hv => by
    have h1 := hd (v + 1) (by simp; omega)
    have h2 : deg (x :: l).length g (v + 1) = (if g 0 (v + 1) then 1 else 0) + deg l.length (fun a b => g (a + 1) (b + 1)) v := by
      unfold deg
      rw [List.length_cons, cnt_succ, hg.sym (v + 1) 0]
    rw [← h2, h1]
    rfl
  refine ⟨⟨fun a b => g (a + 1) (b + 1), ⟨fun a b => hg.sym _ _, fun a => hg.irr _⟩, fun v hv => ?_⟩, ?_, fun i hi hT => ?_⟩
  · rw [hl] at hv ⊢
    have := key v hv
    simp only [take1, List.getElem_map, List.getElem_range, List.getD_eq_getElem?_getD, List.getElem?_eq_getElem hv, Option.getD_some]
    omega
  · have := hd 0 (by simp)
    simpa [deg] using this
  · have := key i hi
    rw [hT] at this
    simp at this
    omega
end Go.Proofs.Ytbimapbcpmeooaa.Cl
