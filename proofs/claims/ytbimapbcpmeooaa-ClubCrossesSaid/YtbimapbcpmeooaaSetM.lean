/- The plans that a search finds are all with these counts, in ascending order. Pure. -/
import Derived.Test.YtbimapbcpmeooaaSolM
namespace Go.Proofs.Ytbimapbcpmeooaa.Cl
set_option linter.unusedVariables false
/-- At how many tables a sorter sits. -/
def dg (T : List Tb) (v : Nat) : Nat := T.countP fun p => p.1 == v || p.2 == v
/-- A tidy plan of k sorters, the first of whom is a. -/
def isT : Nat → Nat → List Tb → Prop
  | 0, _, T => T = []
  | k + 1, a, T => ∃ S R, S.length = k ∧ isT k (a + 1) R ∧ T = wt a (a + 1) S ++ R
theorem dg_app (T S : List Tb) (v : Nat) : dg (T ++ S) v = dg T v + dg S v := by simp [dg]
theorem isT_ge : ∀ {k a : Nat} {T : List Tb}, isT k a T → ∀ p ∈ T, a ≤ p.1 ∧ p.1 < p.2 ∧ p.2 < a + k
  | 0, a, T, h, p, hp => by
    obtain rfl : T = [] := h
    cases hp
  | k + 1, a, T, ⟨S, R, hS, hR, e⟩, p, hp => by
    subst e
    rcases List.mem_append.1 hp with hp | hp
    · have := wt_ge a (a + 1) S p hp
      omega
    · have := isT_ge hR p hp
      omega
theorem dg_none {T : List Tb} {v : Nat} (h : ∀ p ∈ T, p.1 ≠ v ∧ p.2 ≠ v) : dg T v = 0 := by
  unfold dg
  rw [List.countP_eq_zero]
  intro p hp
  have := h p hp
  simp [this]
theorem dg_own (a : Nat) : ∀ (b : Nat) (S : List Bool), dg (wt a b S) a = tr S
  | b, [] => rfl
  | b, true :: S => by
    have := dg_own a (b + 1) S
    unfold dg tr at *
    simp [wt, this]
  | b, false :: S => by
    have := dg_own a (b + 1) S
    unfold dg tr at *
    simp [wt, this]
theorem dg_oth (a : Nat) : ∀ (b : Nat) (S : List Bool) (v : Nat), a < b → dg (wt a b S) (b + v) = if S.getD v false then 1 else 0
  | b, [], v, h => by simp [wt, dg]
  | b, true :: S, v, h => by
    have e1 : dg (wt a b (true :: S)) (b + v) = (if v = 0 then 1 else 0) + dg (wt a (b + 1) S) (b + v) := by
      unfold dg
      rw [wt, List.countP_cons, Nat.add_comm]
      congr 1
      by_cases c : v = 0
      · subst c; simp
      · simp [c]; omega
    rw [e1]
    cases v with
    | zero =>
      rw [dg_none fun p hp => by have := wt_ge a (b + 1) S p hp; omega]
      simp
    | succ v =>
      have := dg_oth a (b + 1) S v (by omega)
      rw [Nat.add_right_comm, Nat.add_assoc] at this
      rw [this]
      simp
  | b, false :: S, v, h => by
    rw [wt]
    cases v with
    | zero =>
      rw [dg_none fun p hp => by have := wt_ge a (b + 1) S p hp; omega]
      simp
    | succ v =>
      have := dg_oth a (b + 1) S v (by omega)
      rw [Nat.add_right_comm, Nat.add_assoc] at this
      rw [this]
      simp
theorem tk_get : ∀ {S : List Bool} {l : List Nat} {v : Nat} (h : v < l.length) (hl : S.length = l.length), (tk S l)[v]'(by rw [tk_len hl]; exact h) = l[v] - if S.getD v false then 1 else 0
  | [], [], v, h, _ => by simp at h
  | [], _ :: _, _, _, hl => by simp at hl
  | _ :: _, [], _, h, _ => by simp at h
  | true :: S, y :: l, 0, h, hl => by simp [tk]
  | false :: S, y :: l, 0, h, hl => by simp [tk]
  | true :: S, y :: l, v + 1, h, hl => by
    have := tk_get (S := S) (l := l) (v := v) (by simpa using h) (by simpa using hl)
    simpa [tk] using this
  | false :: S, y :: l, v + 1, h, hl => by
    have := tk_get (S := S) (l := l) (v := v) (by simpa using h) (by simpa using hl)
    simpa [tk] using this
theorem mem_sols : ∀ {k a : Nat} {l : List Nat} {T : List Tb}, l.length = k → (T ∈ sols k a l ↔ isT k a T ∧ ∀ v (h : v < l.length), dg T (a + v) = l[v])
  | 0, a, l, T, hk => by
    obtain rfl : l = [] := List.length_eq_zero_iff.1 hk
    simp [sols, isT]
  | k + 1, a, [], T, hk => by simp at hk
  | k + 1, a, x :: l, T, hk => by
    have hk' : l.length = k := by simpa using hk
    rw [sols, row_ss, List.mem_flatMap]
    constructor
    · rintro ⟨S, hS, hT⟩
      obtain ⟨R, hR, rfl⟩ := List.mem_map.1 hT
      obtain ⟨h1, h2, h3⟩ := mem_ss.1 hS
      rw [List.nil_append, mem_sols (by rw [tk_len h1, hk'])] at hR
      obtain ⟨hR, hd⟩ := hR
      refine ⟨⟨S, R, by omega, hR, rfl⟩, fun v h => ?_⟩
      rw [dg_app]
      cases v with
      | zero =>
        simp only [Nat.add_zero]
        rw [dg_own, dg_none fun p hp => by have := isT_ge hR p hp; omega]
        exact h2
      | succ v =>
        have hv : v < l.length := by simpa using h
        have e : a + (v + 1) = a + 1 + v := by omega
        rw [e, dg_oth a (a + 1) S v (by omega), hd v (by rw [tk_len h1]; exact hv), tk_get hv h1]
        simp only [List.getElem_cons_succ]
        by_cases c : S.getD v false = true
        · rw [if_pos c]
          have hvS : v < S.length := by omega
          have : 0 < l[v] := h3 v hvS hv (by rw [List.getD_eq_getElem?_getD, List.getElem?_eq_getElem hvS] at c; simpa using c)
          omega
        · rw [if_neg c]; omega
    · rintro ⟨⟨S, R, hS, hR, rfl⟩, hd⟩
      have h1 : S.length = l.length := by omega
      have hx := hd 0 (by simp)
      simp only [Nat.add_zero] at hx
      rw [dg_app, dg_own, dg_none fun p hp => by have := isT_ge hR p hp; omega] at hx
      have hv : ∀ v (h : v < l.length), (if S.getD v false then 1 else 0) + dg R (a + 1 + v) = l[v] := fun v h => by
        have := hd (v + 1) (by simpa using h)
        have e : a + (v + 1) = a + 1 + v := by omega
        rw [dg_app, e, dg_oth a (a + 1) S v (by omega)] at this
        simpa using this
      refine ⟨S, mem_ss.2 ⟨h1, by simpa using hx, fun i h h' hT => ?_⟩, List.mem_map.2 ⟨R, ?_, rfl⟩⟩
      · have := hv i h'
        rw [List.getD_eq_getElem?_getD, List.getElem?_eq_getElem h, Option.getD_some, hT] at this
        simp at this
        omega
      · rw [List.nil_append, mem_sols (by rw [tk_len h1, hk'])]
        refine ⟨hR, fun v h => ?_⟩
        rw [tk_len h1] at h
        rw [tk_get h h1]
        have := hv v h
        omega
theorem smP_app (w : List Tb) (A B : List Tb) : smP (w ++ A) (w ++ B) = smP A B := by
  induction w with
  | nil => rfl
  | cons p w ih => simp [smP, ih]
theorem smP_wt_app (a : Nat) {A B : List Tb} : ∀ (b : Nat) (T S : List Bool), T.length = S.length → tr T = tr S → ltB T S = true → smP (wt a b T ++ A) (wt a b S ++ B) = true
  | b, [], _, _, _, hl => by simp [ltB] at hl
  | b, true :: T, [], h, _, _ => by simp at h
  | b, false :: T, [], h, _, _ => by simp at h
  | b, true :: T, true :: S, h, ht, hl => by
    have ih := smP_wt_app a (A := A) (B := B) (b + 1) T S (by simpa using h) (by simp [tr] at ht ⊢; exact ht) (by simpa [ltB] using hl)
    simp [wt, smP, ih]
  | b, false :: T, false :: S, h, ht, hl => smP_wt_app a (b + 1) T S (by simpa using h) (by simp [tr] at ht ⊢; exact ht) (by simpa [ltB] using hl)
  | b, false :: T, true :: S, h, ht, hl => by simp [ltB] at hl
  | b, true :: T, false :: S, h, ht, hl => by
    cases hw : wt a (b + 1) S with
    | nil =>
      have := wt_len a (b + 1) S
      rw [hw] at this
      simp [tr] at ht this
      omega
    | cons p r =>
      have := wt_ge a (b + 1) S p (by rw [hw]; simp)
      simp only [wt, hw, List.cons_append, smP, this.1]
      rw [if_neg (by simp), if_pos (by simp; omega)]
      simp; omega
theorem sols_sorted : ∀ (k a : Nat) (l : List Nat), l.length = k → (sols k a l).Pairwise fun T S => smP T S = true
  | 0, a, l, _ => by simp [sols]
  | k + 1, a, [], h => by simp at h
  | k + 1, a, x :: l, hk => by
    have hk' : l.length = k := by simpa using hk
    rw [sols, row_ss, List.pairwise_flatMap]
    refine ⟨fun T hT => ?_, ?_⟩
    · rw [List.pairwise_map, List.nil_append]
      exact (sols_sorted k (a + 1) (tk T l) (by rw [tk_len (mem_ss.1 hT).1, hk'])).imp fun h => by rw [smP_app]; exact h
    · refine List.Pairwise.imp_of_mem ?_ (ss_sorted x l)
      intro T S hT hS h A hA B hB
      obtain ⟨A, _, rfl⟩ := List.mem_map.1 hA
      obtain ⟨B, _, rfl⟩ := List.mem_map.1 hB
      have h1 := mem_ss.1 hT
      have h2 := mem_ss.1 hS
      exact smP_wt_app a (a + 1) T S (by omega) (by omega) h
theorem smP_irr : ∀ T : List Tb, smP T T = false
  | [] => rfl
  | p :: T => by simp [smP, smP_irr T]
theorem smP_asym : ∀ {T S : List Tb}, smP T S = true → smP S T = false
  | [], _, h => by simp [smP] at h
  | _ :: _, [], h => by simp [smP] at h
  | p :: T, q :: S, h => by
    unfold smP at h ⊢
    by_cases c : p.1 = q.1
    · rw [if_neg (by simpa using c)] at h
      rw [if_neg (by simpa using c.symm)]
      by_cases d : p.2 = q.2
      · rw [if_neg (by simpa using d)] at h
        rw [if_neg (by simpa using d.symm)]
        exact smP_asym h
      · rw [if_pos (by simpa using d)] at h
        rw [if_pos (fun e => d e.symm)]
        simp at h ⊢; omega
    · rw [if_pos (by simpa using c)] at h
      rw [if_pos (fun e => c e.symm)]
      simp at h ⊢; omega
theorem sols_nodup {k a : Nat} {l : List Nat} (h : l.length = k) : (sols k a l).Nodup := by
  refine (sols_sorted k a l h).imp fun {T S} hlt e => ?_
  subst e
  rw [smP_irr] at hlt
  cases hlt
end Go.Proofs.Ytbimapbcpmeooaa.Cl
