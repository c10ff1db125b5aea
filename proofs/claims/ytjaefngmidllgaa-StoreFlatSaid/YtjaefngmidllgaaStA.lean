/- Arcs, crossings and nestings; gaps: the mathematics. -/
import Derived.Test.YtjaefngmidllgaaStJ
namespace Go.Proofs.Ytjaefngmidllgaa.St
open Go Go.Proofs.Ytjaefngmidllgaa Go.Proofs.Ytjaefngmidllgaa.AX
set_option linter.unusedVariables false
theorem before_idx {K : Type} [BEq K] [LawfulBEq K] : ∀ {l : List K} {x : K} {i : Nat} (h : i < l.length), i < l.idxOf x → l[i] ≠ x
  | y :: l, x, i, h, hi => by
    rw [List.idxOf_cons] at hi
    cases c : y == x with
    | true => rw [c] at hi; simp at hi
    | false =>
      rw [c] at hi
      have hne : y ≠ x := beq_eq_false_iff_ne.1 c
      cases i with
      | zero => exact hne
      | succ i =>
        simp only [List.getElem_cons_succ]
        exact before_idx (by simpa using h) (by simpa using hi)
/-- The arcs of what comes from a box on. -/
def arcsL : Nat → List Nat → List (Nat × Nat)
  | _, [] => []
  | i, x :: l => (if l.contains x then [(i, i + 1 + l.idxOf x)] else []) ++ arcsL (i + 1) l
theorem arcsL_len : ∀ (l : List Nat) (i : Nat), (arcsL i l).length ≤ l.length
  | [], _ => by simp [arcsL]
  | x :: l, i => by
    have := arcsL_len l (i + 1)
    simp only [arcsL, List.length_append, List.length_cons]
    split <;> simp <;> omega
theorem arc_mem : ∀ {l : List Nat} {o p q : Nat}, (p, q) ∈ arcsL o l → o ≤ p ∧ p < q ∧ q < o + l.length ∧ ga l (p - o) = ga l (q - o) ∧ ∀ m, p < m → m < q → ga l (m - o) ≠ ga l (p - o)
  | [], o, p, q, h => by simp [arcsL] at h
  | x :: l, o, p, q, h => by
    simp only [arcsL, List.mem_append] at h
    rcases h with h | h
    · split at h
      · rename_i c
        simp only [List.mem_singleton, Prod.mk.injEq] at h
        obtain ⟨rfl, rfl⟩ := h
        have hm : x ∈ l := by simpa using c
        have hl := List.idxOf_lt_length_of_mem hm
        refine ⟨Nat.le_refl _, by omega, by simp; omega, ?_, fun m h1 h2 => ?_⟩
        · rw [Nat.sub_self, show p + 1 + l.idxOf x - p = l.idxOf x + 1 by omega]
          have := List.getElem_idxOf hl
          simp [ga, hl]
        · rw [Nat.sub_self, show m - p = (m - p - 1) + 1 by omega]
          have hlt : m - p - 1 < l.idxOf x := by omega
          have h3 : m - p - 1 < l.length := by omega
          have hne := before_idx h3 hlt
          simp only [ga, List.getD_cons_succ, List.getD_cons_zero]
          intro e
          rw [List.getD_eq_getElem?_getD, List.getElem?_eq_getElem h3] at e
          simp only [Option.getD_some] at e
          exact hne e
      · simp at h
    · obtain ⟨h1, h2, h3, h4, h5⟩ := arc_mem h
      have hg : ∀ m, o + 1 ≤ m → ga (x :: l) (m - o) = ga l (m - (o + 1)) := fun m hm => by
        rw [show m - o = (m - (o + 1)) + 1 by omega]; simp [ga]
      refine ⟨by omega, h2, by simp; omega, by rw [hg _ h1, hg _ (by omega)]; exact h4, fun m g1 g2 => ?_⟩
      rw [hg _ (by omega), hg _ h1]
      exact h5 m g1 g2
theorem arcs_sorted : ∀ (l : List Nat) (o : Nat), (arcsL o l).Pairwise fun a b => a.1 < b.1 ∧ a.2 ≠ b.2
  | [], _ => by simp [arcsL]
  | x :: l, o => by
    simp only [arcsL]
    rw [List.pairwise_append]
    refine ⟨by split <;> simp, arcs_sorted l (o + 1), fun a ha b hb => ?_⟩
    obtain ⟨p, q⟩ := b
    obtain ⟨h1, h2, h3, h4, h5⟩ := arc_mem hb
    split at ha
    · rename_i c
      simp only [List.mem_singleton] at ha
      subst ha
      have hm : x ∈ l := by simpa using c
      have hl := List.idxOf_lt_length_of_mem hm
      refine ⟨by omega, fun e => ?_⟩
      have e : o + 1 + l.idxOf x = q := e
      have hx : ga l (q - (o + 1)) = x := by
        rw [← e, show o + 1 + l.idxOf x - (o + 1) = l.idxOf x by omega, ga_lt hl]
        exact List.getElem_idxOf hl
      rw [hx] at h4
      have hlt : p - (o + 1) < l.idxOf x := by omega
      rw [ga_lt (by omega)] at h4
      exact before_idx (by omega) hlt h4
    · simp at ha
/-- Pairs, the first one before the second one. -/
def triP (P : Nat × Nat → Nat × Nat → Bool) : List (Nat × Nat) → Nat
  | [] => 0
  | a :: r => r.countP (P a) + triP P r
/-- All pairs. -/
def sumP (P : Nat × Nat → Nat × Nat → Bool) (A : List (Nat × Nat)) : Nat := (A.map fun a => A.countP (P a)).sum
theorem sum_tri (P : Nat × Nat → Nat × Nat → Bool) : ∀ (A : List (Nat × Nat)), (A.Pairwise fun a b => P b a = false) → (∀ a ∈ A, P a a = false) → sumP P A = triP P A
  | [], _, _ => rfl
  | a :: r, h, h0 => by
    obtain ⟨h1, h2⟩ := List.pairwise_cons.1 h
    have ih := sum_tri P r h2 fun b hb => h0 b (by simp [hb])
    have e : r.map (fun b => (a :: r).countP (P b)) = r.map fun b => r.countP (P b) := by
      apply List.map_congr_left
      intro b hb
      rw [List.countP_cons, h1 b hb]; simp
    unfold sumP at ih ⊢
    rw [List.map_cons, List.sum_cons, e, ih, List.countP_cons, h0 a (by simp)]
    simp [triP]
theorem tri_congr {P R : Nat × Nat → Nat × Nat → Bool} : ∀ {A : List (Nat × Nat)}, (A.Pairwise fun a b => P a b = R a b) → triP P A = triP R A
  | [], _ => rfl
  | a :: r, h => by
    obtain ⟨h1, h2⟩ := List.pairwise_cons.1 h
    simp only [triP]
    rw [tri_congr h2]
    congr 1
    exact List.countP_congr fun b hb => by rw [h1 b hb]
/-- As the program counts. -/
def crM (a b : Nat × Nat) : Bool := !(decide (b.2 < a.2)) && decide (b.1 < a.2)
def neM (a b : Nat × Nat) : Bool := decide (b.2 < a.2)
/-- As the document says. -/
def crP (a b : Nat × Nat) : Bool := decide (a.1 < b.1) && decide (b.1 < a.2) && decide (a.2 < b.2)
def neP (a b : Nat × Nat) : Bool := decide (a.1 < b.1) && decide (b.2 < a.2)
def neQ (a b : Nat × Nat) : Bool := decide (a.1 < b.1) && decide (b.1 < a.2) && decide (b.2 < a.2)
def crS (d : List Nat) : Nat := triP crM (arcsL 0 d)
def neS (d : List Nat) : Nat := triP neM (arcsL 0 d)
theorem cr_sum (d : List Nat) : sumP crP (arcsL 0 d) = crS d := by
  have hs := arcs_sorted d 0
  rw [sum_tri crP _ (hs.imp fun {a b} h => by unfold crP; rw [decide_eq_false (by omega)]; rfl) (fun a _ => by unfold crP; rw [decide_eq_false (by omega)]; rfl)]
  refine tri_congr (hs.imp fun {a b} h => ?_)
  unfold crP crM
  rw [decide_eq_true h.1, Bool.true_and, Bool.eq_iff_iff]
  simp only [Bool.and_eq_true, decide_eq_true_eq, Bool.not_eq_true', decide_eq_false_iff_not]
  omega
theorem ne_sum (d : List Nat) : sumP neP (arcsL 0 d) = neS d := by
  have hs := arcs_sorted d 0
  rw [sum_tri neP _ (hs.imp fun {a b} h => by unfold neP; rw [decide_eq_false (by omega)]; rfl) (fun a _ => by unfold neP; rw [decide_eq_false (by omega)]; rfl)]
  refine tri_congr (hs.imp fun {a b} h => ?_)
  unfold neP neM
  rw [decide_eq_true h.1, Bool.true_and]
theorem ne_sumQ (d : List Nat) : sumP neQ (arcsL 0 d) = neS d := by
  rw [← ne_sum]
  unfold sumP
  congr 1
  apply List.map_congr_left
  intro a ha
  refine List.countP_congr fun b hb => ?_
  obtain ⟨p, q⟩ := b
  have := (arc_mem hb).2.1
  unfold neQ neP
  simp only [Bool.and_eq_true, decide_eq_true_eq]
  omega
/-- The key of a gap: how many boxes of each room lie before it, all of them counted as none. -/
def keyG (d : List Nat) (i : Nat) : List Nat := (List.range 9).map fun r => (d.take (i + 1)).count r % d.count r
def keysG (d : List Nat) : List (List Nat) := (List.range d.length).map (keyG d)
def gp (d : List Nat) : List Nat := dv (keysG d)
theorem keysG_len (d : List Nat) : (keysG d).length = d.length := by simp [keysG]
theorem gp_len (d : List Nat) : (gp d).length = d.length := by unfold gp; rw [dv_len, keysG_len]
/-- How many boxes of a room are from one to another one. -/
def amS (d : List Nat) (r i j : Nat) : Nat := ((d.take (j + 1)).drop i).count r
/-- Whether each room lies between two gaps, or outside. -/
def whB (d : List Nat) (i j : Nat) : Bool := (List.range (opn 0 d)).all fun r => amS d r (i + 1) j == 0 || amS d r (i + 1) j == amS d r 0 (d.length - 1)
theorem mod_lem {c m s : Nat} (h : c + m ≤ s) : c % s = (c + m) % s ↔ m = 0 ∨ m = s := by
  rcases Nat.lt_or_ge (c + m) s with h1 | h1
  · rw [Nat.mod_eq_of_lt h1, Nat.mod_eq_of_lt (by omega)]; omega
  · have e : c + m = s := by omega
    rw [e, Nat.mod_self]
    rcases Nat.lt_or_ge c s with h2 | h2
    · rw [Nat.mod_eq_of_lt h2]; omega
    · have : c = s := by omega
      rw [this, Nat.mod_self]; omega
theorem count_parts (d : List Nat) (r : Nat) {i j : Nat} (hij : i ≤ j) (hj : j < d.length) : (d.take (j + 1)).count r = (d.take (i + 1)).count r + amS d r (i + 1) j ∧ (d.take (j + 1)).count r ≤ d.count r := by
  constructor
  · unfold amS
    have h := List.take_append_drop (i + 1) (d.take (j + 1))
    rw [List.take_take, Nat.min_eq_left (by omega)] at h
    have := congrArg (List.count r) h
    rw [List.count_append] at this
    omega
  · have h := List.take_append_drop (j + 1) d
    have := congrArg (List.count r) h
    rw [List.count_append] at this
    omega
theorem am_all (d : List Nat) (r : Nat) (h : 0 < d.length) : amS d r 0 (d.length - 1) = d.count r := by
  unfold amS; rw [List.drop_zero, show d.length - 1 + 1 = d.length by omega, List.take_length]
theorem key_wh {d : List Nat} (hd : OkD d) {i j : Nat} (hij : i < j) (hj : j < d.length) : keyG d i = keyG d j ↔ whB d i j = true := by
  have hpt : ∀ r, (d.take (i + 1)).count r % d.count r = (d.take (j + 1)).count r % d.count r ↔ (amS d r (i + 1) j = 0 ∨ amS d r (i + 1) j = amS d r 0 (d.length - 1)) := fun r => by
    obtain ⟨h1, h2⟩ := count_parts d r (Nat.le_of_lt hij) hj
    rw [am_all d r hd.pos, h1, mod_lem (by omega)]
  have h9 := opn_le d 0
  have hlen := hd.len
  unfold keyG whB
  simp only [List.all_eq_true, List.mem_range, Bool.or_eq_true, beq_iff_eq]
  rw [List.map_inj_left]
  simp only [List.mem_range]
  constructor
  · intro h r hr
    exact (hpt r).1 (h r (by omega))
  · intro h r hr
    by_cases c : r < opn 0 d
    · exact (hpt r).2 (h r c)
    · have hz : d.count r = 0 := List.count_eq_zero.2 fun hm => c (rg_lt d 0 hd.rg r hm)
      obtain ⟨h1, h2⟩ := count_parts d r (Nat.le_of_lt hij) hj
      rw [hz] at h2 ⊢
      have e1 : (d.take (j + 1)).count r = 0 := by omega
      have e2 : (d.take (i + 1)).count r = 0 := by omega
      rw [e1, e2]
/-- The labels of gaps: the first gap that is together with each. -/
def labG (d : List Nat) : List Nat := (keysG d).map (keysG d).idxOf
theorem labG_len (d : List Nat) : (labG d).length = d.length := by simp [labG, keysG_len]
theorem dv_lab (d : List Nat) : dv (labG d) = gp d := by
  unfold gp
  refine dv_congr _ _ (by rw [labG_len, keysG_len]) fun i j hi hj => ?_
  simp only [labG, List.getElem_map]
  exact ⟨fun h => idx_inj (List.getElem_mem _) h, fun h => by rw [h]⟩
theorem keysG_get {d : List Nat} {i : Nat} (h : i < d.length) : (keysG d)[i]'(by rw [keysG_len]; exact h) = keyG d i := by simp [keysG]
theorem first_key {d : List Nat} {j : Nat} (hj : j < d.length) : (keysG d).idxOf (keyG d j) ≤ j ∧ keyG d ((keysG d).idxOf (keyG d j)) = keyG d j ∧ ∀ i, i < (keysG d).idxOf (keyG d j) → keyG d i ≠ keyG d j := by
  have hm : keyG d j ∈ keysG d := by rw [← keysG_get hj]; exact List.getElem_mem _
  have hl := List.idxOf_lt_length_of_mem hm
  have hfirst : ∀ i, i < (keysG d).idxOf (keyG d j) → keyG d i ≠ keyG d j := fun i hi e => by
    have h3 : i < (keysG d).length := by omega
    have := before_idx h3 hi
    rw [keysG_get (by rw [keysG_len] at h3; exact h3)] at this
    exact this e
  refine ⟨?_, ?_, hfirst⟩
  · apply Classical.byContradiction
    intro h
    exact hfirst j (by omega) rfl
  · have := List.getElem_idxOf hl
    rw [keysG_get (by rw [keysG_len] at hl; exact hl)] at this
    exact this
/-- The owner of gaps: one place before. -/
def owS (d : List Nat) : List Nat := dv ((gp d).drop (d.length - 1) ++ (gp d).take (d.length - 1))
end Go.Proofs.Ytjaefngmidllgaa.St
