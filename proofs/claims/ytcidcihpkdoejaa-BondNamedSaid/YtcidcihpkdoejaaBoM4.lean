/- Holders with other numbers. -/
import Derived.Test.YtcidcihpkdoejaaBoM3
namespace Go.Proofs.Ytcidcihpkdoejaa.Bo
open Go Go.Proofs.Ytcidcihpkdoejaa Go.Proofs.Ytcidcihpkdoejaa.AX
set_option maxRecDepth 100000

/-- The numbers that are so, as a group. -/
def grp : Nat → (Nat → Bool) → Nat
  | 0, _ => 0
  | n + 1, p => grp n p ||| (if p n then 1 <<< n else 0)
theorem one_bit (b i : Nat) : (1 <<< b).testBit i = decide (b = i) := by
  rw [Nat.shiftLeft_eq, Nat.one_mul, Nat.testBit_two_pow]
theorem grp_bit : ∀ (n : Nat) (p : Nat → Bool) (i : Nat), (grp n p).testBit i = (decide (i < n) && p i)
  | 0, p, i => by simp [grp]
  | n + 1, p, i => by
    have ih := grp_bit n p i
    rw [grp, Nat.testBit_or, ih]
    by_cases h : i = n
    · subst h
      cases hp : p i with
      | true => rw [if_pos rfl, one_bit]; simp
      | false => simp
    · have : decide (i < n + 1) = decide (i < n) := by
        rw [decide_eq_decide]; omega
      rw [this]
      cases hp : p n with
      | true => rw [if_pos rfl, one_bit]; simp; omega
      | false => simp
theorem grp_lt (n : Nat) (p : Nat → Bool) : grp n p < 2 ^ n := by
  apply Nat.lt_pow_two_of_testBit
  intro i hi
  rw [grp_bit]
  simp [show ¬ i < n by omega]
/-- A group with other numbers, after the first h holders. -/
def mv (to : List Nat) (g : Nat) : Nat → Nat
  | 0 => 0
  | h + 1 => mv to g h ||| (bt g h) <<< to[h]!
theorem bt_bit (g h : Nat) : bt g h = if g.testBit h then 1 else 0 := by
  unfold bt
  rw [Nat.testBit_eq_decide_div_mod_eq]
  by_cases h1 : g / 2 ^ h % 2 = 1
  · simp [h1]
  · have : g / 2 ^ h % 2 = 0 := by omega
    simp [this]
theorem mv_bit (to : List Nat) (g : Nat) : ∀ (h i : Nat), (mv to g h).testBit i = true ↔ ∃ j, j < h ∧ to[j]! = i ∧ g.testBit j = true
  | 0, i => by simp [mv]
  | h + 1, i => by
    have ih := mv_bit to g h i
    rw [mv, Nat.testBit_or, Bool.or_eq_true, ih, bt_bit]
    constructor
    · rintro (⟨j, h1, h2, h3⟩ | hx)
      · exact ⟨j, by omega, h2, h3⟩
      · cases hg : g.testBit h with
        | true =>
          rw [hg] at hx
          simp only [if_true, one_bit, decide_eq_true_eq] at hx
          exact ⟨h, by omega, hx, hg⟩
        | false => rw [hg] at hx; simp at hx
    · rintro ⟨j, h1, h2, h3⟩
      by_cases hj : j = h
      · subst hj
        right
        rw [h3, if_pos rfl, one_bit, h2]; simp
      · exact .inl ⟨j, by omega, h2, h3⟩
/-- New numbers. -/
structure Re (n : Nat) (to : List Nat) : Prop where
  len : to.length = n
  perm : to.Perm (List.range n)
variable {n : Nat} {to : List Nat}
theorem Re.lt (h : Re n to) {i : Nat} (hi : i < n) : to[i]! < n := by
  have hl := h.len
  rw [getElem!_pos to i (by omega)]
  exact List.mem_range.1 (h.perm.mem_iff.1 (List.getElem_mem _))
theorem Re.inj (h : Re n to) {i j : Nat} (hi : i < n) (hj : j < n) (e : to[i]! = to[j]!) : i = j := by
  have hl := h.len
  rw [getElem!_pos to i (by omega), getElem!_pos to j (by omega)] at e
  exact inj_get (h.perm.nodup_iff.2 List.nodup_range) (by omega) (by omega) e
theorem Re.sur (h : Re n to) {x : Nat} (hx : x < n) : ∃ i, i < n ∧ to[i]! = x := by
  obtain ⟨i, hi, e⟩ := List.getElem_of_mem (h.perm.mem_iff.2 (List.mem_range.2 hx))
  exact ⟨i, by rw [← h.len]; exact hi, by rw [getElem!_pos to i hi, e]⟩
theorem Re.bit (h : Re n to) (g : Nat) {i : Nat} (hi : i < n) : (mv to g n).testBit (to[i]!) = g.testBit i := by
  rw [Bool.eq_iff_iff, mv_bit]
  constructor
  · rintro ⟨j, h1, h2, h3⟩
    rw [h.inj h1 hi h2] at h3; exact h3
  · intro h3; exact ⟨i, hi, rfl, h3⟩
theorem Re.mlt (h : Re n to) (g : Nat) : mv to g n < 2 ^ n := by
  apply Nat.lt_pow_two_of_testBit
  intro i hi
  cases hb : (mv to g n).testBit i with
  | false => rfl
  | true =>
    obtain ⟨j, h1, h2, -⟩ := (mv_bit to g n i).1 hb
    have := h.lt h1
    omega
theorem Re.onto (h : Re n to) {x : Nat} (hx : x < 2 ^ n) : ∃ g, g < 2 ^ n ∧ mv to g n = x := by
  refine ⟨grp n fun i => x.testBit (to[i]!), grp_lt _ _, ?_⟩
  apply Nat.eq_of_testBit_eq
  intro i
  by_cases hi : i < n
  · obtain ⟨j, h1, h2⟩ := h.sur hi
    rw [← h2, h.bit _ h1, grp_bit]
    simp [h1]
  · rw [tb_hi (h.mlt _) (by omega), tb_hi hx (by omega)]
theorem Re.sub (h : Re n to) {a b : Nat} (ha : a < 2 ^ n) : Bo.sub (mv to a n) (mv to b n) = Bo.sub a b := by
  rw [Bool.eq_iff_iff, sub_iff, sub_iff]
  constructor
  · intro hs i hi
    by_cases hn : i < n
    · have := hs (to[i]!) (by rw [h.bit a hn]; exact hi)
      rw [h.bit b hn] at this; exact this
    · rw [tb_hi ha (by omega)] at hi; cases hi
  · intro hs i hi
    obtain ⟨j, h1, h2, h3⟩ := (mv_bit to a n i).1 hi
    exact (mv_bit to b n i).2 ⟨j, h1, h2, hs j h3⟩
theorem Re.inj2 (h : Re n to) {a b : Nat} (ha : a < 2 ^ n) (hb : b < 2 ^ n) (e : mv to a n = mv to b n) : a = b :=
  sub_antisymm (by rw [← h.sub ha, e]; exact sub_refl _) (by rw [← h.sub hb, e]; exact sub_refl _)
theorem Re.within (h : Re n to) {l : List Nat} (hl : okG (2 ^ n) l) (g : Nat) : Bo.within (l.map fun o => mv to o n) (mv to g n) = Bo.within l g := by
  rw [Bool.eq_iff_iff, within_iff, within_iff]
  constructor
  · rintro ⟨o, ho, hs⟩
    obtain ⟨p, hp, rfl⟩ := List.mem_map.1 ho
    rw [h.sub (hl p hp)] at hs
    exact ⟨p, hp, hs⟩
  · rintro ⟨o, ho, hs⟩
    exact ⟨_, List.mem_map_of_mem ho, by rw [h.sub (hl o ho)]; exact hs⟩
theorem Re.most (h : Re n to) {s t : Nat → Bool} (hst : ∀ g, g < 2 ^ n → t (mv to g n) = s g) {g : Nat} (hg : g < 2 ^ n) : mst (2 ^ n) t (mv to g n) = mst (2 ^ n) s g := by
  rw [Bool.eq_iff_iff, mst_iff, mst_iff, hst g hg]
  constructor
  · rintro ⟨h1, h2⟩
    exact ⟨h1, fun o ho hs hf => h.inj2 ho hg (h2 _ (h.mlt o) (by rw [h.sub hg]; exact hs) (by rw [hst o ho]; exact hf))⟩
  · rintro ⟨h1, h2⟩
    refine ⟨h1, fun o ho hs hf => ?_⟩
    obtain ⟨p, hp, rfl⟩ := h.onto ho
    rw [h.sub hg] at hs
    rw [hst p hp] at hf
    rw [h2 p hp hs hf]
theorem Re.least (h : Re n to) {s t : Nat → Bool} (hst : ∀ g, g < 2 ^ n → t (mv to g n) = s g) {g : Nat} (hg : g < 2 ^ n) : lst (2 ^ n) t (mv to g n) = lst (2 ^ n) s g := by
  rw [Bool.eq_iff_iff, lst_iff, lst_iff, hst g hg]
  constructor
  · rintro ⟨h1, h2⟩
    exact ⟨h1, fun o ho hs hf => h.inj2 ho hg (h2 _ (h.mlt o) (by rw [h.sub ho]; exact hs) (by rw [hst o ho]; exact hf))⟩
  · rintro ⟨h1, h2⟩
    refine ⟨h1, fun o ho hs hf => ?_⟩
    obtain ⟨p, hp, rfl⟩ := h.onto ho
    rw [h.sub hp] at hs
    rw [hst p hp] at hf
    rw [h2 p hp hs hf]
theorem Re.cm (h : Re n to) {g : Nat} (hg : g < 2 ^ n) : Bo.cm n (mv to g n) = mv to (Bo.cm n g) n := by
  apply Nat.eq_of_testBit_eq
  intro i
  rw [tb_cm (h.mlt g)]
  by_cases hi : i < n
  · obtain ⟨j, h1, h2⟩ := h.sur hi
    rw [← h2, h.bit _ h1, h.bit _ h1, tb_cm hg, h2]
    simp [h1, hi]
  · rw [tb_hi (h.mlt (Bo.cm n g)) (show n ≤ i by omega)]
    simp [hi]
theorem perm_mem {l m : List Nat} (hl : l.Nodup) (hm : m.Nodup) (h : ∀ x, x ∈ l ↔ x ∈ m) : l.Perm m :=
  (List.perm_ext_iff_of_nodup hl hm).2 h
theorem nodup_map {f : Nat → Nat} : ∀ {l : List Nat}, l.Nodup → (∀ a ∈ l, ∀ b ∈ l, f a = f b → a = b) → (l.map f).Nodup
  | [], _, _ => by simp
  | a :: l, hd, h => by
    rw [List.nodup_cons] at hd
    rw [List.map_cons, List.nodup_cons]
    refine ⟨fun hm => ?_, nodup_map hd.2 fun x hx y hy => h x (by simp [hx]) y (by simp [hy])⟩
    obtain ⟨b, hb, e⟩ := List.mem_map.1 hm
    have := h b (by simp [hb]) a (by simp) e
    rw [this] at hb
    exact hd.1 hb
theorem Re.mostP (h : Re n to) {l : List Nat} (hl : okG (2 ^ n) l) : ((mostS (2 ^ n) (Bo.within l)).map fun o => mv to o n).Perm (mostS (2 ^ n) (Bo.within (l.map fun o => mv to o n))) := by
  refine perm_mem ?_ (most_nodup _ _) fun x => ?_
  · refine nodup_map (most_nodup _ _) fun a ha b hb e => h.inj2 (most_ok _ _ a ha) (most_ok _ _ b hb) e
  · rw [List.mem_map]
    constructor
    · rintro ⟨g, hg, rfl⟩
      obtain ⟨h1, h2⟩ := mem_most.1 hg
      exact mem_most.2 ⟨h.mlt g, by rw [h.most (fun g _ => h.within hl g) h1]; exact h2⟩
    · intro hx
      obtain ⟨h1, h2⟩ := mem_most.1 hx
      obtain ⟨g, hg, rfl⟩ := h.onto h1
      exact ⟨g, mem_most.2 ⟨hg, by rw [← h.most (fun g _ => h.within hl g) hg]; exact h2⟩, rfl⟩
theorem Re.locksP (h : Re n to) {l : List Nat} (hl : okG (2 ^ n) l) : ((locksS n l).map fun o => mv to o n).Perm (locksS n (l.map fun o => mv to o n)) := by
  have hst : ∀ g, g < 2 ^ n → need n (Bo.within (l.map fun o => mv to o n)) (mv to g n) = need n (Bo.within l) g := fun g hg => by
    rw [need, need, h.cm hg, h.within hl]
  refine perm_mem ?_ (least_nodup _ _) fun x => ?_
  · refine nodup_map (least_nodup _ _) fun a ha b hb e => h.inj2 (least_ok _ _ a ha) (least_ok _ _ b hb) e
  · rw [List.mem_map]
    constructor
    · rintro ⟨g, hg, rfl⟩
      obtain ⟨h1, h2⟩ := mem_least.1 hg
      exact mem_least.2 ⟨h.mlt g, by rw [h.least hst h1]; exact h2⟩
    · intro hx
      obtain ⟨h1, h2⟩ := mem_least.1 hx
      obtain ⟨g, hg, rfl⟩ := h.onto h1
      exact ⟨g, mem_least.2 ⟨hg, by rw [← h.least hst hg]; exact h2⟩, rfl⟩
theorem Re.keys (h : Re n to) {l : List Nat} (hl : okG (2 ^ n) l) {i : Nat} (hi : i < n) : keyS (locksS n (l.map fun o => mv to o n)) (to[i]!) = keyS (locksS n l) i := by
  unfold keyS
  rw [← (h.locksP hl).countP_eq, List.countP_map]
  congr 1
  funext o
  exact h.bit o hi
end Go.Proofs.Ytcidcihpkdoejaa.Bo
