/- Boxes in the opposite order have as many crossings and nestings: the mathematics. -/
import Derived.Test.YtjaefngmidllgaaStA
namespace Go.Proofs.Ytjaefngmidllgaa.St
open Go Go.Proofs.Ytjaefngmidllgaa Go.Proofs.Ytjaefngmidllgaa.AX
set_option linter.unusedVariables false
theorem mem_arc : ∀ {l : List Nat} {o p q : Nat}, (o ≤ p ∧ p < q ∧ q < o + l.length ∧ ga l (p - o) = ga l (q - o) ∧ ∀ m, p < m → m < q → ga l (m - o) ≠ ga l (p - o)) → (p, q) ∈ arcsL o l
  | [], o, p, q, h => by simp at h; omega
  | x :: l, o, p, q, ⟨h1, h2, h3, h4, h5⟩ => by
    simp only [arcsL, List.mem_append]
    have hs : ∀ k, ga (x :: l) (k + 1) = ga l k := fun k => by simp [ga]
    have h0 : ga (x :: l) 0 = x := by simp [ga]
    simp only [List.length_cons] at h3
    by_cases c : p = o
    · left
      subst c
      obtain ⟨k, rfl⟩ : ∃ k, q = p + 1 + k := ⟨q - p - 1, by omega⟩
      have hk : k < l.length := by omega
      rw [Nat.sub_self, show p + 1 + k - p = k + 1 by omega, hs, h0, ga_lt hk] at h4
      have hm : x ∈ l := by rw [h4]; exact List.getElem_mem hk
      have hl := List.idxOf_lt_length_of_mem hm
      have hg := List.getElem_idxOf hl
      have hi : l.idxOf x = k := by
        rcases Nat.lt_trichotomy (l.idxOf x) k with g | g | g
        · exfalso
          have := h5 (p + 1 + l.idxOf x) (by omega) (by omega)
          rw [Nat.sub_self, show p + 1 + l.idxOf x - p = l.idxOf x + 1 by omega, hs, h0, ga_lt hl] at this
          exact this hg
        · exact g
        · exact absurd h4.symm (before_idx hk g)
      rw [if_pos (by simpa using hm), hi]
      simp
    · right
      have hg : ∀ m, o + 1 ≤ m → ga (x :: l) (m - o) = ga l (m - (o + 1)) := fun m hm => by
        rw [show m - o = (m - (o + 1)) + 1 by omega, hs]
      refine mem_arc ⟨by omega, h2, by omega, ?_, fun m g1 g2 => ?_⟩
      · rw [← hg _ (by omega), ← hg _ (by omega)]; exact h4
      · rw [← hg _ (by omega), ← hg _ (by omega)]; exact h5 m g1 g2
theorem arc_iff {l : List Nat} {p q : Nat} : (p, q) ∈ arcsL 0 l ↔ p < q ∧ q < l.length ∧ ga l p = ga l q ∧ ∀ m, p < m → m < q → ga l m ≠ ga l p := by
  constructor
  · intro h
    obtain ⟨h1, h2, h3, h4, h5⟩ := arc_mem h
    simp only [Nat.sub_zero, Nat.zero_add] at h3 h4 h5
    exact ⟨h2, h3, h4, h5⟩
  · rintro ⟨h2, h3, h4, h5⟩
    exact mem_arc ⟨Nat.zero_le _, h2, by omega, h4, h5⟩
theorem swapP (P : Nat × Nat → Nat × Nat → Bool) : ∀ A B : List (Nat × Nat), (A.map fun a => B.countP (P a)).sum = (B.map fun b => A.countP fun a => P a b).sum
  | [], B => by
    induction B with
    | nil => rfl
    | cons b B ih => simp at ih ⊢; exact ih
  | a :: A, B => by
    rw [List.map_cons, List.sum_cons, swapP P A B]
    induction B with
    | nil => simp
    | cons b B ih =>
      simp only [List.map_cons, List.sum_cons, List.countP_cons] at ih ⊢
      omega
theorem sumP_perm (P : Nat × Nat → Nat × Nat → Bool) {A B : List (Nat × Nat)} (h : A.Perm B) : sumP P A = sumP P B := by
  unfold sumP
  rw [(h.map fun a => A.countP (P a)).sum_nat]
  congr 1
  exact List.map_congr_left fun a _ => h.countP_eq _
theorem sumP_map (P R : Nat × Nat → Nat × Nat → Bool) (f : Nat × Nat → Nat × Nat) {A : List (Nat × Nat)} (h : ∀ a ∈ A, ∀ b ∈ A, P (f a) (f b) = R a b) : sumP P (A.map f) = sumP R A := by
  unfold sumP
  rw [List.map_map]
  congr 1
  apply List.map_congr_left
  intro a ha
  simp only [Function.comp]
  rw [List.countP_map]
  exact List.countP_congr fun b hb => by simp [h a ha b hb]
theorem arcs_nodup (d : List Nat) : (arcsL 0 d).Nodup := (arcs_sorted d 0).imp fun {a b} h e => by rw [e] at h; omega
def mir (n : Nat) (a : Nat × Nat) : Nat × Nat := (n - 1 - a.2, n - 1 - a.1)
theorem arcs_mir {d e : List Nat} {n : Nat} (hd : d.length = n) (he : e.length = n) (h : ∀ i k, i < n → k < n → (ga e i = ga e k ↔ ga d (n - 1 - i) = ga d (n - 1 - k))) : (arcsL 0 e).Perm ((arcsL 0 d).map (mir n)) := by
  refine (List.perm_ext_iff_of_nodup (arcs_nodup e) ?_).2 ?_
  · unfold List.Nodup
    rw [List.pairwise_map]
    refine (arcs_nodup d).imp_of_mem ?_
    rintro ⟨p, q⟩ ⟨r, s⟩ ha hb hne he
    obtain ⟨g1, g2, -⟩ := arc_iff.1 ha
    obtain ⟨k1, k2, -⟩ := arc_iff.1 hb
    simp only [mir, Prod.mk.injEq] at he
    apply hne
    rw [Prod.mk.injEq]
    omega
  · rintro ⟨p, q⟩
    rw [List.mem_map, arc_iff]
    constructor
    · rintro ⟨h1, h2, h3, h4⟩
      refine ⟨(n - 1 - q, n - 1 - p), arc_iff.2 ⟨by omega, by omega, ((h p q (by omega) (by omega)).1 h3).symm, fun m g1 g2 => ?_⟩, ?_⟩
      · intro e1
        have e2 := (h p q (by omega) (by omega)).1 h3
        have := (h (n - 1 - m) p (by omega) (by omega)).2 (by rw [show n - 1 - (n - 1 - m) = m by omega, e1, e2])
        exact h4 _ (by omega) (by omega) this
      · simp only [mir, Prod.mk.injEq]; omega
    · rintro ⟨⟨r, s⟩, ha, hm⟩
      obtain ⟨h1, h2, h3, h4⟩ := arc_iff.1 ha
      simp only [mir, Prod.mk.injEq] at hm
      obtain ⟨rfl, rfl⟩ := hm
      refine ⟨by omega, by omega, (h _ _ (by omega) (by omega)).2 ?_, fun m g1 g2 e1 => ?_⟩
      · rw [show n - 1 - (n - 1 - s) = s by omega, show n - 1 - (n - 1 - r) = r by omega, h3]
      · have := (h _ _ (by omega) (by omega)).1 e1
        rw [show n - 1 - (n - 1 - s) = s by omega, ← h3] at this
        exact h4 _ (by omega) (by omega) this
theorem turn_eq {d e : List Nat} {n : Nat} (hd : d.length = n) (he : e.length = n) (h : ∀ i k, i < n → k < n → (ga e i = ga e k ↔ ga d (n - 1 - i) = ga d (n - 1 - k))) : crS e = crS d ∧ neS e = neS d := by
  have hp := arcs_mir hd he h
  have hb : ∀ a ∈ arcsL 0 d, a.1 < a.2 ∧ a.2 < n := by
    rintro ⟨p, q⟩ ha
    obtain ⟨h1, h2, -⟩ := arc_iff.1 ha
    exact ⟨h1, by omega⟩
  constructor
  · rw [← cr_sum, ← cr_sum, sumP_perm _ hp, sumP_map crP (fun a b => crP b a) (mir n) (fun a ha b hb' => ?_)]
    · unfold sumP
      exact swapP (fun a b => crP b a) _ _
    · have := hb a ha
      have := hb b hb'
      unfold crP mir
      rw [Bool.eq_iff_iff]
      simp only [Bool.and_eq_true, decide_eq_true_eq]
      omega
  · rw [← ne_sumQ, ← ne_sumQ, sumP_perm _ hp, sumP_map neQ neQ (mir n) (fun a ha b hb' => ?_)]
    have := hb a ha
    have := hb b hb'
    unfold neQ mir
    rw [Bool.eq_iff_iff]
    simp only [Bool.and_eq_true, decide_eq_true_eq]
    omega
end Go.Proofs.Ytjaefngmidllgaa.St
