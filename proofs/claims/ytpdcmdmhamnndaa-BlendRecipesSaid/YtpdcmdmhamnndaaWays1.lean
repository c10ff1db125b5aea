/- Ways from a blend to another one: what they hold. -/
import Derived.Test.YtpdcmdmhamnndaaSort
namespace Go.Proofs.Ytpdcmdmhamnndaa
open Go Go.Proofs.Ytpdcmdmhamnndaa.AX

theorem sorted_ext : ∀ {l m : List Int}, l.Pairwise (· < ·) → m.Pairwise (· < ·) → (∀ x, x ∈ l ↔ x ∈ m) → l = m
  | [], [], _, _, _ => rfl
  | [], y :: m, _, _, h => by have := (h y).2 (by simp); simp at this
  | x :: l, [], _, _, h => by have := (h x).1 (by simp); simp at this
  | x :: l, y :: m, hl, hm, h => by
    obtain ⟨a1, a2⟩ := List.pairwise_cons.1 hl
    obtain ⟨b1, b2⟩ := List.pairwise_cons.1 hm
    have e : x = y := by
      rcases List.mem_cons.1 ((h x).1 (by simp)) with e | hx
      · exact e
      · rcases List.mem_cons.1 ((h y).2 (by simp)) with e | hy
        · exact e.symm
        · have := a1 y hy; have := b1 x hx; omega
    subst e
    have := sorted_ext a2 b2 (fun z => by
      have := h z
      simp only [List.mem_cons] at this
      constructor
      · intro hz
        rcases this.1 (.inr hz) with e | e
        · have := a1 z hz; omega
        · exact e
      · intro hz
        rcases this.2 (.inr hz) with e | e
        · have := b1 z hz; omega
        · exact e)
    rw [this]
theorem mem_lack {l o : List Int} {x : Int} : x ∈ lack l o ↔ x ∈ l ∧ x ∉ o := by simp [lack]
theorem lack_sorted {l o : List Int} (h : l.Pairwise (· < ·)) : (lack l o).Pairwise (· < ·) := h.sublist List.filter_sublist
theorem lack_len {l m : List Int} (hl : l.Pairwise (· < ·)) (hm : m.Pairwise (· < ·)) (h : l.length = m.length) : (lack l m).length = (lack m l).length := by
  have e : l.filter (fun y => decide (y ∈ m)) = m.filter (fun y => decide (y ∈ l)) := by
    refine sorted_ext (hl.sublist List.filter_sublist) (hm.sublist List.filter_sublist) fun x => ?_
    simp [and_comm]
  have part : ∀ (l m : List Int), (l.filter fun y => decide (y ∈ m)).length + (lack l m).length = l.length := by
    intro l m
    unfold lack
    induction l with
    | nil => rfl
    | cons x l ih => by_cases hx : x ∈ m <;> simp [hx] at ih ⊢ <;> omega
  have h1 := part l m
  have h2 := part m l
  rw [e] at h1
  omega
/-- A blend in which a leaf went out and another one came in. -/
def exS (n : Nat) (l : List Int) (out inn : Int) : List Int := (iota n).filter fun x => x == inn || x != out && decide (x ∈ l)
theorem exS_okb (n : Nat) (l : List Int) (out inn : Int) : Okb n (exS n l out inn) := by
  obtain ⟨h1, h2⟩ := okb_iota n
  exact ⟨fun x hx => h1 x (List.mem_filter.1 hx).1, h2.sublist List.filter_sublist⟩
theorem mem_iota {n : Nat} {x : Int} : x ∈ iota n ↔ 0 ≤ x ∧ x < n := by
  constructor
  · exact fun h => (okb_iota n).1 x h
  · rintro ⟨h1, h2⟩
    simp only [iota, List.mem_map, List.mem_range]
    exact ⟨x.toNat, by omega, by omega⟩
theorem mem_exS {n : Nat} {l : List Int} (hl : Okb n l) {out inn : Int} (hi : 0 ≤ inn ∧ inn < n) {x : Int} : x ∈ exS n l out inn ↔ x = inn ∨ (x ≠ out ∧ x ∈ l) := by
  unfold exS
  rw [List.mem_filter, mem_iota]
  simp only [Bool.or_eq_true, beq_iff_eq, Bool.and_eq_true, bne_iff_ne, decide_eq_true_eq]
  constructor
  · exact fun h => h.2
  · intro h
    refine ⟨?_, h⟩
    rcases h with rfl | ⟨-, h⟩
    · exact hi
    · exact hl.1 x h
theorem exS_ne (n : Nat) (l : List Int) (out inn : Int) (hl : Okb n l) (hi : 0 ≤ inn ∧ inn < n) : exS n l out inn ≠ [] := by
  intro h
  have := (mem_exS (out := out) hl hi (x := inn)).2 (.inl rfl)
  rw [h] at this; simp at this
/-- What is sorted, of the same leaves. -/
theorem sort_exS {n : Nat} {l m : List Int} (hl : Okb n l) {k : Nat} {out inn : Int} (hk : l[k]? = some out) (hi : 0 ≤ inn ∧ inn < n) (hin : inn ∉ l) (hp : m.Perm (l.set k inn)) (hs : m.Pairwise (· ≤ ·)) : m = exS n l out inn := by
  obtain ⟨hkl, hkx⟩ := List.getElem?_eq_some_iff.1 hk
  have hnd : l.Pairwise (· ≠ ·) := hl.2.imp (by omega)
  rw [List.pairwise_iff_getElem] at hnd
  have hnd2 : (l.set k inn).Pairwise (· ≠ ·) := by
    rw [List.pairwise_iff_getElem]
    intro i j h1 h2 h3
    simp only [List.length_set] at h1 h2
    rw [List.getElem_set, List.getElem_set]
    split
    · rename_i e
      rw [if_neg (by omega)]
      intro e2; exact hin (by rw [e2]; exact List.getElem_mem _)
    · split
      · intro e2; exact hin (by rw [← e2]; exact List.getElem_mem _)
      · exact hnd i j h1 h2 h3
  have hnd3 : m.Pairwise (· ≠ ·) := (hp.pairwise_iff (fun h => Ne.symm h)).2 hnd2
  have hlt : m.Pairwise (· < ·) := by
    have := hs.and hnd3
    exact this.imp (fun h => by omega)
  refine sorted_ext hlt (exS_okb n l out inn).2 fun x => ?_
  rw [hp.mem_iff, mem_exS hl hi]
  constructor
  · intro hx
    obtain ⟨i, h1, h2⟩ := List.getElem_of_mem hx
    simp only [List.length_set] at h1
    rw [List.getElem_set] at h2
    split at h2
    · exact .inl h2.symm
    · rename_i hik
      right
      refine ⟨?_, by rw [← h2]; exact List.getElem_mem _⟩
      rintro rfl
      rw [← hkx] at h2
      rcases Nat.lt_or_gt_of_ne hik with h | h
      · exact hnd k i hkl h1 h h2.symm
      · exact hnd i k h1 hkl h h2
  · rintro (rfl | ⟨h1, h2⟩)
    · exact List.mem_set hkl ..
    · obtain ⟨i, h3, h4⟩ := List.getElem_of_mem h2
      have hik : k ≠ i := by rintro rfl; exact h1 (by rw [← h4, hkx])
      have : (l.set k inn)[i]'(by simpa using h3) = x := by rw [List.getElem_set_ne hik]; exact h4
      rw [← this]; exact List.getElem_mem _

/-- The blends on the way, by the leaves that go out and come in. -/
def wayS (n : Nat) : List Int → List Int → List Int → List (List Int)
  | a, o :: os, i :: is => a :: wayS n (exS n a o i) os is
  | a, _, _ => [a]
theorem lack_step {n : Nat} {a b : List Int} (ha : Okb n a) (hb : Okb n b) {o i : Int} {os is : List Int} (h1 : lack a b = o :: os) (h2 : lack b a = i :: is) : lack (exS n a o i) b = os ∧ lack b (exS n a o i) = is := by
  have ho : o ∈ a ∧ o ∉ b := mem_lack.1 (by rw [h1]; simp)
  have hi : i ∈ b ∧ i ∉ a := mem_lack.1 (by rw [h2]; simp)
  have hir := hb.1 i hi.1
  have s1 := lack_sorted (o := b) ha.2
  have s2 := lack_sorted (o := a) hb.2
  have m1 := fun x => (mem_lack (l := a) (o := b) (x := x))
  have m2 := fun x => (mem_lack (l := b) (o := a) (x := x))
  rw [h1] at s1 m1
  rw [h2] at s2 m2
  obtain ⟨c1, c2⟩ := List.pairwise_cons.1 s1
  obtain ⟨d1, d2⟩ := List.pairwise_cons.1 s2
  constructor
  · refine sorted_ext (lack_sorted (exS_okb n a o i).2) c2 fun x => ?_
    rw [mem_lack, mem_exS ha hir]
    have := m1 x
    simp only [List.mem_cons] at this
    constructor
    · rintro ⟨rfl | ⟨g1, g2⟩, g3⟩
      · exact absurd hi.1 g3
      · rcases this.2 ⟨g2, g3⟩ with e | e
        · exact absurd e g1
        · exact e
    · intro hx
      have g := this.1 (.inr hx)
      exact ⟨.inr ⟨by have := c1 x hx; omega, g.1⟩, g.2⟩
  · refine sorted_ext (lack_sorted hb.2) d2 fun x => ?_
    rw [mem_lack, mem_exS ha hir]
    have := m2 x
    simp only [List.mem_cons] at this
    constructor
    · rintro ⟨g1, g2⟩
      have g3 : x ≠ i := fun e => g2 (.inl e)
      have g4 : x ∉ a := fun e => g2 (.inr ⟨fun e2 => ho.2 (e2 ▸ g1), e⟩)
      rcases this.2 ⟨g1, g4⟩ with e | e
      · exact absurd e g3
      · exact e
    · intro hx
      have g := this.1 (.inr hx)
      refine ⟨g.1, ?_⟩
      rintro (e | ⟨-, e⟩)
      · have := d1 x hx; omega
      · exact g.2 e
theorem way_end {n : Nat} {a b : List Int} (ha : Okb n a) (hb : Okb n b) (h1 : lack a b = []) (h2 : lack b a = []) : a = b := by
  refine sorted_ext ha.2 hb.2 fun x => ?_
  have m1 := (mem_lack (l := a) (o := b) (x := x))
  have m2 := (mem_lack (l := b) (o := a) (x := x))
  rw [h1] at m1; rw [h2] at m2
  simp at m1 m2
  exact ⟨m1, m2⟩
theorem lack_self (a : List Int) : lack a a = [] := by simp [lack]
end Go.Proofs.Ytpdcmdmhamnndaa
