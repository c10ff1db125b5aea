/- Flat divisions and those of their gaps: the mathematics of classes. -/
import Derived.Test.YtjaefngmidllgaaTurnM
import Derived.Test.YtjaefngmidllgaaLatM
namespace Go.Proofs.Ytjaefngmidllgaa.St
open Go Go.Proofs.Ytjaefngmidllgaa Go.Proofs.Ytjaefngmidllgaa.AX
set_option linter.unusedVariables false
theorem most_of {P : Nat → Prop} {i N : Nat} (h : P i) (hb : ∀ j, P j → j < N) : ∃ m, P m ∧ ∀ j, P j → j ≤ m := by
  obtain ⟨k, ⟨j, h1, h2⟩, h3⟩ := least_of (P := fun k => ∃ j, P j ∧ j + k = N) (i := N - i) ⟨i, h, by have := hb i h; omega⟩
  refine ⟨j, h1, fun j2 hj2 => ?_⟩
  have := h3 (N - j2) ⟨j2, hj2, by have := hb j2 hj2; omega⟩
  have := hb j2 hj2
  omega
theorem sum_zero : ∀ {l : List Nat}, l.sum = 0 ↔ ∀ x ∈ l, x = 0
  | [] => by simp
  | x :: l => by
    rw [List.sum_cons]
    simp only [List.mem_cons, forall_eq_or_imp, ← sum_zero (l := l)]
    omega
theorem sumP_zero {P : Nat × Nat → Nat × Nat → Bool} {A : List (Nat × Nat)} : sumP P A = 0 ↔ ∀ x ∈ A, ∀ y ∈ A, P x y = false := by
  unfold sumP
  rw [sum_zero]
  simp only [List.mem_map, forall_exists_index, and_imp, forall_apply_eq_imp_iff₂, List.countP_eq_zero, Bool.not_eq_true]
/-- No two rooms cross. -/
def nc (d : List Nat) : Prop := ∀ a b c e, a < b → b < c → c < e → e < d.length → ga d a = ga d c → ga d b = ga d e → ga d a = ga d b
theorem nc_iff {d : List Nat} : crS d = 0 ↔ nc d := by
  rw [← cr_sum, sumP_zero]
  constructor
  · intro h a b c e h1 h2 h3 h4 e1 e2
    apply Classical.byContradiction
    intro hne
    obtain ⟨p, ⟨p1, p2⟩, p3⟩ := most_of (P := fun p => p < b ∧ ga d p = ga d a) (i := a) (N := b) ⟨h1, rfl⟩ fun j hj => hj.1
    obtain ⟨q, ⟨q1, q2⟩, q3⟩ := least_of (P := fun q => b < q ∧ ga d q = ga d a) (i := c) ⟨h2, e1.symm⟩
    have hqc := q3 c ⟨h2, e1.symm⟩
    obtain ⟨r, ⟨r1, r2⟩, r3⟩ := most_of (P := fun r => r < q ∧ ga d r = ga d b) (i := b) (N := q) ⟨q1, rfl⟩ fun j hj => hj.1
    obtain ⟨s, ⟨s1, s2⟩, s3⟩ := least_of (P := fun s => q < s ∧ ga d s = ga d b) (i := e) ⟨by omega, e2.symm⟩
    have hse := s3 e ⟨by omega, e2.symm⟩
    have hrb := r3 b ⟨q1, rfl⟩
    have A1 : (p, q) ∈ arcsL 0 d := arc_iff.2 ⟨by omega, by omega, by rw [p2, q2], fun m m1 m2 hm => by
      rw [p2] at hm
      rcases Nat.lt_trichotomy m b with g | rfl | g
      · have := p3 m ⟨g, hm⟩; omega
      · exact hne hm.symm
      · have := q3 m ⟨g, hm⟩; omega⟩
    have A2 : (r, s) ∈ arcsL 0 d := arc_iff.2 ⟨by omega, by omega, by rw [r2, s2], fun m m1 m2 hm => by
      rw [r2] at hm
      rcases Nat.lt_trichotomy m q with g | rfl | g
      · have := r3 m ⟨g, hm⟩; omega
      · exact hne (q2.symm.trans hm)
      · have := s3 m ⟨g, hm⟩; omega⟩
    have := h _ A1 _ A2
    unfold crP at this
    simp only [Bool.and_eq_false_iff, decide_eq_false_iff_not] at this
    omega
  · rintro h ⟨p, q⟩ hA ⟨r, s⟩ hB
    obtain ⟨a1, a2, a3, a4⟩ := arc_iff.1 hA
    obtain ⟨b1, b2, b3, b4⟩ := arc_iff.1 hB
    unfold crP
    rw [Bool.eq_false_iff]
    intro hc
    simp only [Bool.and_eq_true, decide_eq_true_eq] at hc
    obtain ⟨⟨c1, c2⟩, c3⟩ := hc
    exact a4 r c1 c2 (h p r q s c1 c2 c3 b2 a3 b3).symm
/-- Whole rooms lie between two gaps. -/
def clo (d : List Nat) (i j : Nat) : Prop := ∀ x y, i < x → x ≤ j → y < d.length → ga d x = ga d y → i < y ∧ y ≤ j
theorem mem_seg {d : List Nat} {a b r : Nat} : r ∈ (d.take b).drop a ↔ ∃ k, a ≤ k ∧ k < b ∧ k < d.length ∧ ga d k = r := by
  rw [List.mem_iff_getElem]
  constructor
  · rintro ⟨k, hk, rfl⟩
    have hk' := hk
    simp only [List.length_drop, List.length_take] at hk'
    refine ⟨a + k, by omega, by omega, by omega, ?_⟩
    rw [List.getElem_drop, List.getElem_take, ga_lt (by omega)]
  · rintro ⟨k, h1, h2, h3, rfl⟩
    refine ⟨k - a, by simp only [List.length_drop, List.length_take]; omega, ?_⟩
    rw [List.getElem_drop, List.getElem_take, ga_lt h3]
    congr 1; omega
theorem mem_tk {d : List Nat} {b r : Nat} : r ∈ d.take b ↔ ∃ k, k < b ∧ k < d.length ∧ ga d k = r := by
  have := @mem_seg d 0 b r
  rw [List.drop_zero] at this
  rw [this]; simp
theorem mem_dp {d : List Nat} {a r : Nat} : r ∈ d.drop a ↔ ∃ k, a ≤ k ∧ k < d.length ∧ ga d k = r := by
  have := @mem_seg d a d.length r
  rw [List.take_length] at this
  rw [this]; constructor
  · rintro ⟨k, h1, h2, h3, h4⟩; exact ⟨k, h1, h2, h4⟩
  · rintro ⟨k, h1, h2, h3⟩; exact ⟨k, h1, h2, h2, h3⟩
theorem wh_clo {d : List Nat} (hd : OkD d) {i j : Nat} (hij : i < j) (hj : j < d.length) : whB d i j = true ↔ clo d i j := by
  unfold whB
  simp only [List.all_eq_true, List.mem_range, Bool.or_eq_true, beq_iff_eq, am_all d _ hd.pos]
  have hsum : ∀ r, d.count r = (d.take (i + 1)).count r + amS d r (i + 1) j + (d.drop (j + 1)).count r := fun r => by
    have h1 := (count_parts d r (Nat.le_of_lt hij) hj).1
    have h2 : d.count r = (d.take (j + 1)).count r + (d.drop (j + 1)).count r := by
      rw [← List.count_append, List.take_append_drop]
    omega
  constructor
  · intro h x y h1 h2 h3 e
    have hx : x < d.length := by omega
    have hr : ga d x < opn 0 d := by rw [ga_lt hx]; exact rg_lt d 0 hd.rg _ (List.getElem_mem hx)
    have hm : amS d (ga d x) (i + 1) j ≠ 0 := by
      unfold amS
      intro h0
      exact List.count_eq_zero.1 h0 (mem_seg.2 ⟨x, by omega, by omega, hx, rfl⟩)
    have ht := (h _ hr).resolve_left hm
    have hs := hsum (ga d x)
    constructor
    · apply Classical.byContradiction
      intro hc
      have h0 : (d.take (i + 1)).count (ga d x) = 0 := by omega
      exact List.count_eq_zero.1 h0 (mem_tk.2 ⟨y, by omega, h3, e.symm⟩)
    · apply Classical.byContradiction
      intro hc
      have h0 : (d.drop (j + 1)).count (ga d x) = 0 := by omega
      exact List.count_eq_zero.1 h0 (mem_dp.2 ⟨y, by omega, h3, e.symm⟩)
  · intro h r hr
    by_cases c : amS d r (i + 1) j = 0
    · exact .inl c
    · right
      have hm : r ∈ (d.take (j + 1)).drop (i + 1) := by
        apply Classical.byContradiction
        intro hn
        exact c (List.count_eq_zero.2 hn)
      obtain ⟨x, x1, x2, x3, x4⟩ := mem_seg.1 hm
      have h0 : (d.take (i + 1)).count r = 0 := List.count_eq_zero.2 fun hy => by
        obtain ⟨y, y1, y2, y3⟩ := mem_tk.1 hy
        have := h x y (by omega) (by omega) y2 (by rw [x4, y3])
        omega
      have h1 : (d.drop (j + 1)).count r = 0 := List.count_eq_zero.2 fun hy => by
        obtain ⟨y, y1, y2, y3⟩ := mem_dp.1 hy
        have := h x y (by omega) (by omega) y2 (by rw [x4, y3])
        omega
      have := hsum r
      omega
theorem gp_iff {d : List Nat} (hd : OkD d) {i j : Nat} (hij : i < j) (hj : j < d.length) : ga (gp d) i = ga (gp d) j ↔ clo d i j := by
  have hl := keysG_len d
  unfold gp
  rw [ga_dv (by omega) (by omega), keysG_get (by omega), keysG_get hj, key_wh hd hij hj]
  exact wh_clo hd hij hj
theorem dv_okD' {K : Type} [BEq K] [LawfulBEq K] (l : List K) (h0 : 0 < l.length) (h9 : l.length ≤ 9) : OkD (dv l) := ⟨by rw [dv_len]; exact h0, by rw [dv_len]; exact h9, rg_dv l⟩
theorem gp_ok {d : List Nat} (hd : OkD d) : OkD (gp d) := by
  have h1 := hd.pos
  have h2 := hd.len
  exact dv_okD' _ (by rw [keysG_len]; exact h1) (by rw [keysG_len]; exact h2)
theorem gp_nc {d : List Nat} (hd : OkD d) : nc (gp d) := by
  intro a b c e h1 h2 h3 h4 e1 e2
  rw [gp_len] at h4
  have k1 := (gp_iff hd (by omega) (by omega)).1 e1
  have k2 := (gp_iff hd (by omega) (by omega)).1 e2
  have : ga (gp d) b = ga (gp d) c := (gp_iff hd h2 (by omega)).2 fun x y x1 x2 hy e => by
    have := k1 x y (by omega) (by omega) hy e
    have := k2 x y (by omega) (by omega) hy e
    omega
  rw [this]; exact e1
theorem twice {d : List Nat} (hd : OkD d) (hf : nc d) {i k : Nat} (hk : k < i) (hi : i < d.length) : ga (gp (gp d)) i = ga (gp (gp d)) k ↔ ga d ((i + 1) % d.length) = ga d ((k + 1) % d.length) := by
  have hg := gp_ok hd
  have hgl := gp_len d
  have e0 : ga (gp (gp d)) i = ga (gp (gp d)) k ↔ clo (gp d) k i := by
    rw [← gp_iff hg hk (by omega)]; exact eq_comm
  rw [e0, Nat.mod_eq_of_lt (a := k + 1) (by omega)]
  constructor
  · intro hc
    apply Classical.byContradiction
    intro hne
    obtain ⟨m, ⟨m1, m2, m3⟩, m4⟩ := most_of (P := fun m => k < m ∧ m ≤ i ∧ ga d m = ga d (k + 1)) (i := k + 1) (N := i + 1) ⟨by omega, by omega, rfl⟩ fun j hj => by omega
    by_cases c : ∃ y, i < y ∧ y < d.length ∧ ga d y = ga d (k + 1)
    · obtain ⟨y, hy⟩ := c
      obtain ⟨q, ⟨q1, q2, q3⟩, q4⟩ := least_of (P := fun y => i < y ∧ y < d.length ∧ ga d y = ga d (k + 1)) hy
      have hq : q ≠ i + 1 := by
        rintro rfl
        rw [Nat.mod_eq_of_lt q2] at hne
        exact hne q3
      have hcl : clo d m (q - 1) := by
        intro x y x1 x2 hy e
        have hx : ga d x ≠ ga d (k + 1) := by
          intro hx
          rcases Nat.lt_or_ge i x with g | g
          · have := q4 x ⟨g, by omega, hx⟩; omega
          · have := m4 x ⟨by omega, g, hx⟩; omega
        rcases Nat.lt_trichotomy y m with g | rfl | g
        · exact absurd (by rw [e, hf y m x q g x1 (by omega) q2 e.symm (by rw [m3, q3]), m3]) hx
        · exact absurd (by rw [e, m3]) hx
        · rcases Nat.lt_trichotomy y q with g2 | rfl | g2
          · omega
          · exact absurd (by rw [e, q3]) hx
          · exact absurd (by rw [← hf m x q y x1 (by omega) g2 hy (by rw [m3, q3]) e, m3]) hx
      have := hc m (q - 1) m1 m2 (by omega) ((gp_iff hd (by omega) (by omega)).2 hcl)
      omega
    · have hno : ∀ y, y < d.length → ga d y = ga d (k + 1) → y ≤ m := fun y h1 h2 => by
        rcases Nat.lt_or_ge i y with g | g
        · exact absurd ⟨y, g, h1, h2⟩ c
        · rcases Nat.lt_or_ge k y with g2 | g2
          · exact m4 y ⟨g2, g, h2⟩
          · omega
      obtain ⟨f, ⟨f1, f2⟩, f3⟩ := least_of (P := fun y => y < d.length ∧ ga d y = ga d (k + 1)) (i := k + 1) ⟨by omega, rfl⟩
      have hfk := f3 (k + 1) ⟨by omega, rfl⟩
      rcases Nat.eq_zero_or_pos f with rfl | hf0
      · rcases Nat.lt_or_ge (i + 1) d.length with g | g
        · have hcl : clo d m (d.length - 1) := by
            intro x y x1 x2 hy e
            refine ⟨?_, by omega⟩
            have hx : ga d x ≠ ga d (k + 1) := fun hx => by have := hno x (by omega) hx; omega
            apply Classical.byContradiction
            intro hym
            rcases Nat.eq_zero_or_pos y with rfl | hy0
            · exact hx (by rw [e, f2])
            · rcases Nat.lt_or_ge y m with g2 | g2
              · exact hx (by rw [e, ← hf 0 y m x hy0 g2 x1 (by omega) (by rw [f2, m3]) e.symm, f2])
              · obtain rfl : y = m := by omega
                exact hx (by rw [e, m3])
          have := hc m (d.length - 1) m1 m2 (by omega) ((gp_iff hd (by omega) (by omega)).2 hcl)
          omega
        · have : i + 1 = d.length := by omega
          rw [this, Nat.mod_self] at hne
          exact hne f2
      · have hcl : clo d (f - 1) m := by
          intro x y x1 x2 hy e
          by_cases hx : ga d x = ga d (k + 1)
          · have h1 := hno y hy (by rw [← e, hx])
            have h2 := f3 y ⟨hy, by rw [← e, hx]⟩
            omega
          · have hxf : x ≠ f := by rintro rfl; exact hx f2
            have hxm : x ≠ m := by rintro rfl; exact hx m3
            rcases Nat.lt_or_ge y f with g | g
            · exact absurd (by rw [e, hf y f x m g (by omega) (by omega) (by omega) e.symm (by rw [f2, m3]), f2]) hx
            · rcases Nat.lt_or_ge m y with g2 | g2
              · exact absurd (by rw [← hf f x m y (by omega) (by omega) g2 hy (by rw [f2, m3]) e, f2]) hx
              · omega
        have := hc m (f - 1) m1 m2 (by omega) (((gp_iff hd (by omega) (by omega)).2 hcl).symm)
        omega
  · intro h x y x1 x2 hy e
    rw [hgl] at hy
    apply Classical.byContradiction
    intro hc
    rcases Nat.lt_or_ge i y with g | g
    · have hcl := (gp_iff hd (show x < y by omega) hy).1 e
      rw [Nat.mod_eq_of_lt (a := i + 1) (by omega)] at h
      have := hcl (i + 1) (k + 1) (by omega) (by omega) (by omega) h
      omega
    · have hcl := (gp_iff hd (show y < x by omega) (by omega)).1 e.symm
      have := hcl (k + 1) ((i + 1) % d.length) (by omega) (by omega) (Nat.mod_lt _ hd.pos) h.symm
      rcases Nat.lt_or_ge (i + 1) d.length with g2 | g2
      · rw [Nat.mod_eq_of_lt g2] at this; omega
      · have e2 : i + 1 = d.length := by omega
        rw [e2, Nat.mod_self] at this; omega
theorem mt_nc {a b : List Nat} (hab : a.length = b.length) (ha : nc a) (hb : nc b) : nc (mtS a b) := by
  intro p q r s h1 h2 h3 h4 e1 e2
  rw [mt_len hab] at h4
  have k1 := (meet_ker hab (by omega) (by omega)).1 e1
  have k2 := (meet_ker hab (by omega) (by omega)).1 e2
  exact (meet_ker hab (by omega) (by omega)).2 ⟨ha p q r s h1 h2 h3 h4 k1.1 k2.1, hb p q r s h1 h2 h3 (by omega) k1.2 k2.2⟩
theorem gaps_fin {a m : List Nat} (ha : OkD a) (hm : OkD m) (hl : m.length = a.length) (h : finB m a = true) : finB (gp a) (gp m) = true := by
  rw [finB_iff]
  have key : ∀ i k, i < k → k < a.length → ga (gp a) i = ga (gp a) k → ga (gp m) i = ga (gp m) k := fun i k hik hk e => by
    have h1 := (gp_iff ha hik hk).1 e
    refine (gp_iff hm hik (by omega)).2 fun x y x1 x2 hy e2 => ?_
    exact h1 x y x1 x2 (by omega) (finB_iff.1 h x y (by omega) hy e2)
  intro i k hi hk e
  rw [gp_len] at hi hk
  rcases Nat.lt_trichotomy i k with g | rfl | g
  · exact key i k g hk e
  · rfl
  · exact (key k i g hi e.symm).symm
end Go.Proofs.Ytjaefngmidllgaa.St
