/- Joined texts: Box, Sm, Stp, Nb, OSorted, Adv, Pub, Ref, AllR, PubR. -/
import Derived.Test.YtpfkioakjmpimaaJbeca
/- Arrangements, and what is the best one. -/
namespace Go.Proofs.Ytpfkioakjmpimaa
open Go Go.Proofs.Ytpfkioakjmpimaa.AX
namespace Arr
/-- Smaller, place by place. -/
def lx : List Int → List Int → Prop
  | a :: l, b :: m => a < b ∨ (a = b ∧ lx l m)
  | [], _ => False
  | _ :: _, [] => False
instance decLx : ∀ a b, Decidable (lx a b)
  | a :: l, b :: m => @instDecidableOr _ _ _ (@instDecidableAnd _ _ _ (decLx l m))
  | [], _ => .isFalse (by simp [lx])
  | _ :: _, [] => .isFalse (by simp [lx])
theorem lx_irr : ∀ a, ¬ lx a a
  | [] => by simp [lx]
  | a :: l => by simp only [lx]; rintro (h | ⟨-, h⟩); · omega
                 exact lx_irr l h
theorem lx_trans : ∀ {a b c : List Int}, lx a b → lx b c → lx a c
  | [], _, _, h, _ => h.elim
  | _ :: _, [], _, h, _ => h.elim
  | _ :: _, _ :: _, [], _, h => h.elim
  | a :: l, b :: m, c :: n, h, k => by
    simp only [lx] at h k ⊢
    rcases h with h | ⟨h, h'⟩ <;> rcases k with k | ⟨k, k'⟩
    · exact .inl (by omega)
    · exact .inl (by omega)
    · exact .inl (by omega)
    · exact .inr ⟨by omega, lx_trans h' k'⟩
theorem lx_tri : ∀ {a b : List Int}, a.length = b.length → lx a b ∨ a = b ∨ lx b a
  | [], [], _ => .inr (.inl rfl)
  | [], _ :: _, h => by simp at h
  | _ :: _, [], h => by simp at h
  | a :: l, b :: m, h => by
    simp only [lx]
    rcases Int.lt_trichotomy a b with e | e | e
    · exact .inl (.inl e)
    · subst e
      rcases lx_tri (a := l) (b := m) (by simpa using h) with k | k | k
      · exact .inl (.inr ⟨rfl, k⟩)
      · exact .inr (.inl (by rw [k]))
      · exact .inr (.inr (.inr ⟨rfl, k⟩))
    · exact .inr (.inr (.inl e))
def le (a b : List Int) : Prop := a = b ∨ lx a b
theorem le.refl (a : List Int) : le a a := .inl rfl
theorem le.trans {a b c : List Int} (h : le a b) (k : le b c) : le a c := by
  rcases h with rfl | h
  · exact k
  · rcases k with rfl | k
    · exact .inr h
    · exact .inr (lx_trans h k)
theorem le.anti {a b : List Int} (h : le a b) (k : le b a) : a = b := by
  rcases h with h | h
  · exact h
  · rcases k with k | k
    · exact k.symm
    · exact absurd (lx_trans h k) (lx_irr a)
theorem le_or {a b : List Int} (h : a.length = b.length) : le a b ∨ lx b a := by
  rcases lx_tri h with k | k | k
  · exact .inl (.inr k)
  · exact .inl (.inl k)
  · exact .inr k
theorem le_cons {a : Int} {l m : List Int} (h : le l m) : le (a :: l) (a :: m) := by
  rcases h with rfl | h
  · exact .inl rfl
  · exact .inr (.inr ⟨rfl, h⟩)

theorem falls_max : ∀ {l q : List Int}, l.Pairwise (· ≥ ·) → q.Perm l → le q l
  | [], q, _, h => by rw [h.eq_nil]; exact .refl _
  | a :: l, [], _, h => by simp at h
  | a :: l, b :: q, hl, h => by
    rw [List.pairwise_cons] at hl
    have hb : b ∈ a :: l := h.subset (by simp)
    have hab : b ≤ a := by
      rcases List.mem_cons.1 hb with e | e
      · omega
      · exact hl.1 b e
    rcases Int.lt_or_eq_of_le hab with e | rfl
    · exact .inr (.inl e)
    · exact le_cons (falls_max hl.2 (List.perm_cons _ |>.1 h))
theorem rises_min : ∀ {l q : List Int}, l.Pairwise (· ≤ ·) → q.Perm l → le l q
  | [], q, _, h => by rw [h.eq_nil]; exact .refl _
  | a :: l, [], _, h => by simp at h
  | a :: l, b :: q, hl, h => by
    rw [List.pairwise_cons] at hl
    have hb : b ∈ a :: l := h.subset (by simp)
    have hab : a ≤ b := by
      rcases List.mem_cons.1 hb with e | e
      · omega
      · exact hl.1 b e
    rcases Int.lt_or_eq_of_le hab with e | rfl
    · exact .inr (.inl e)
    · exact le_cons (rises_min hl.2 (List.perm_cons _ |>.1 h))
theorem perm_mid {a : Int} {l m q : List Int} (h : (a :: q).Perm (l ++ a :: m)) : q.Perm (l ++ m) :=
  (List.perm_cons a).1 (h.trans List.perm_middle)
/-- The next greater arrangement. -/
theorem next_perm {a x : Int} {u v : List Int} (hf : (u ++ x :: v).Pairwise (· ≥ ·)) (hx : a < x) (hv : ∀ y ∈ v, y ≤ a) : ∀ {pre p : List Int}, p.Perm (pre ++ a :: (u ++ x :: v)) → lx (pre ++ a :: (u ++ x :: v)) p → le (pre ++ x :: (u ++ a :: v).reverse) p
  | [], [], h, _ => by simp at h
  | [], b :: q, h, hl => by
    simp only [List.nil_append, lx] at h hl ⊢
    rcases hl with hl | ⟨rfl, hl⟩
    · have hb : b ∈ a :: (u ++ x :: v) := h.subset (by simp)
      have hxb : x ≤ b := by
        simp only [List.mem_cons, List.mem_append] at hb
        rw [List.pairwise_append] at hf
        rcases hb with rfl | hb | rfl | hb
        · omega
        · exact hf.2.2 b hb x (by simp)
        · omega
        · have := hv b hb; omega
      rcases Int.lt_or_eq_of_le hxb with e | rfl
      · exact .inr (.inl e)
      · refine le_cons (rises_min ?_ ?_)
        · rw [List.pairwise_reverse]
          rw [List.pairwise_append, List.pairwise_cons] at hf ⊢
          refine ⟨hf.1, ⟨fun y hy => hv y hy, hf.2.1.2⟩, fun y hy z hz => ?_⟩
          rcases List.mem_cons.1 hz with rfl | hz
          · have := hf.2.2 y hy x (by simp); simp only [ge_iff_le]; omega
          · exact hf.2.2 y hy z (by simp [hz])
        · have h2 : (x :: q).Perm ((a :: u) ++ x :: v) := h
          have := perm_mid h2
          exact this.trans ((List.perm_middle.symm).trans (List.reverse_perm _).symm)
    · have := falls_max hf ((List.perm_cons _).1 h)
      rcases this with rfl | this
      · exact absurd hl (lx_irr _)
      · exact absurd (lx_trans hl this) (lx_irr _)
  | d :: pre, [], h, _ => by simp at h
  | d :: pre, b :: q, h, hl => by
    simp only [List.cons_append, lx] at h hl ⊢
    rcases hl with hl | ⟨rfl, hl⟩
    · exact .inr (.inl hl)
    · exact le_cons (next_perm hf hx hv ((List.perm_cons _).1 h) hl)
theorem next_gt {a x : Int} {u v : List Int} (hx : a < x) : ∀ {pre : List Int}, lx (pre ++ a :: (u ++ x :: v)) (pre ++ x :: (u ++ a :: v).reverse)
  | [] => .inl hx
  | _ :: _ => .inr ⟨rfl, next_gt hx⟩
theorem next_is {a x : Int} {u v pre : List Int} : (pre ++ x :: (u ++ a :: v).reverse).Perm (pre ++ a :: (u ++ x :: v)) := by
  refine List.Perm.append_left pre ?_
  refine ((List.reverse_perm (u ++ a :: v)).cons x).trans ?_
  refine (List.perm_middle.cons x).trans ?_
  refine (List.Perm.swap a x _).trans ?_
  exact (List.perm_middle.symm).cons a

/-- All arrangements. -/
def ins (x : Int) : List Int → List (List Int)
  | [] => [[x]]
  | y :: l => (x :: y :: l) :: (ins x l).map (y :: ·)
def perms : List Int → List (List Int)
  | [] => [[]]
  | x :: l => (perms l).flatMap (ins x)
theorem mem_ins {x : Int} : ∀ {s t : List Int}, s ++ x :: t ∈ ins x (s ++ t)
  | [], [] => by simp [ins]
  | [], y :: t => by simp [ins]
  | y :: s, t => by simp only [List.cons_append, ins, List.mem_cons, List.mem_map]; exact .inr ⟨_, mem_ins, rfl⟩
theorem ins_perm {x : Int} : ∀ {l p : List Int}, p ∈ ins x l → p.Perm (x :: l)
  | [], p, h => by simp [ins] at h; rw [h]
  | y :: l, p, h => by
    simp only [ins, List.mem_cons, List.mem_map] at h
    rcases h with rfl | ⟨q, hq, rfl⟩
    · exact .refl _
    · exact ((ins_perm hq).cons y).trans (.swap x y l)
theorem mem_perms : ∀ {l p : List Int}, p ∈ perms l ↔ p.Perm l
  | [], p => by simp [perms]
  | x :: l, p => by
    simp only [perms, List.mem_flatMap]
    constructor
    · rintro ⟨q, h1, h2⟩
      exact (ins_perm h2).trans ((mem_perms.1 h1).cons x)
    · intro h
      have hx : x ∈ p := h.symm.subset (by simp)
      obtain ⟨s, t, rfl⟩ := List.append_of_mem hx
      exact ⟨s ++ t, mem_perms.2 (perm_mid h.symm).symm, mem_ins⟩
/-- How many arrangements come behind one. -/
def left (l c : List Int) : Nat := (perms l).countP fun p => decide (lx c p)
theorem countP_lt {α : Type} {P Q : α → Bool} : ∀ {l : List α}, (∀ x ∈ l, P x = true → Q x = true) → (∃ x ∈ l, Q x = true ∧ P x = false) → l.countP P < l.countP Q
  | [], _, h => by obtain ⟨x, h, -⟩ := h; simp at h
  | y :: l, h, hx => by
    simp only [List.countP_cons]
    have hle : l.countP P ≤ l.countP Q := List.countP_mono_left fun x hx => h x (by simp [hx])
    obtain ⟨x, hm, h1, h2⟩ := hx
    rcases List.mem_cons.1 hm with rfl | hm
    · simp only [h1, h2]; simp; omega
    · have := countP_lt (l := l) (fun x hx => h x (by simp [hx])) ⟨x, hm, h1, h2⟩
      have hy := h y (by simp)
      cases hp : P y <;> cases hq : Q y <;> simp_all <;> omega
theorem left_lt {l c d : List Int} (hd : d.Perm l) (h : lx c d) : left l d < left l c :=
  countP_lt (fun p _ hp => by simp only [decide_eq_true_eq] at hp ⊢; exact lx_trans h hp) ⟨d, mem_perms.2 hd, by simpa using h, by simpa using lx_irr d⟩

/-- Better: of lower cost, and of the same cost the first. -/
def bet (c : List Int → Int) (a b : List Int) : Prop := c a < c b ∨ (c a = c b ∧ le a b)
theorem bet.refl (c : List Int → Int) (a : List Int) : bet c a a := .inr ⟨rfl, .refl a⟩
theorem bet.trans {c : List Int → Int} {x y z : List Int} (h : bet c x y) (k : bet c y z) : bet c x z := by
  rcases h with h | ⟨h, h'⟩ <;> rcases k with k | ⟨k, k'⟩
  · exact .inl (by omega)
  · exact .inl (by omega)
  · exact .inl (by omega)
  · exact .inr ⟨by omega, h'.trans k'⟩
theorem bet.anti {c : List Int → Int} {x y : List Int} (h : bet c x y) (k : bet c y x) : x = y := by
  rcases h with h | ⟨h, h'⟩ <;> rcases k with k | ⟨k, k'⟩
  · omega
  · omega
  · omega
  · exact h'.anti k'
instance (a b : List Int) : Decidable (le a b) := inferInstanceAs (Decidable (_ ∨ _))
instance (c : List Int → Int) (a b : List Int) : Decidable (bet c a b) := inferInstanceAs (Decidable (_ ∨ _))
theorem bet_or (c : List Int → Int) {a b : List Int} (h : a.length = b.length) : bet c a b ∨ bet c b a := by
  rcases Int.lt_trichotomy (c a) (c b) with e | e | e
  · exact .inl (.inl e)
  · rcases le_or h with k | k
    · exact .inl (.inr ⟨e, k⟩)
    · exact .inr (.inr ⟨e.symm, .inr k⟩)
  · exact .inr (.inl e)
def pick (c : List Int → Int) (a b : List Int) : List Int := if bet c a b then a else b
def bestS (c : List Int → Int) (l : List Int) : List Int := (perms l).foldl (pick c) l
theorem fold_best (c : List Int → Int) {n : Nat} : ∀ (L : List (List Int)) (a : List Int), a.length = n → (∀ p ∈ L, p.length = n) → (L.foldl (pick c) a ∈ a :: L) ∧ ∀ p ∈ a :: L, bet c (L.foldl (pick c) a) p
  | [], a, _, _ => by simp [bet.refl]
  | b :: L, a, ha, hL => by
    simp only [List.foldl_cons]
    have hb : b.length = n := hL b (by simp)
    have hp : (pick c a b).length = n := by unfold pick; split <;> assumption
    have h1 : pick c a b ∈ [a, b] := by unfold pick; split <;> simp
    have h2 : bet c (pick c a b) a ∧ bet c (pick c a b) b := by
      unfold pick; split
      · exact ⟨.refl _ _, by assumption⟩
      · rename_i h; exact ⟨(bet_or c (ha.trans hb.symm)).resolve_left h, .refl _ _⟩
    obtain ⟨h3, h4⟩ := fold_best c L (pick c a b) hp fun p hp => hL p (by simp [hp])
    have h5 := h4 (pick c a b) (by simp)
    refine ⟨?_, fun p hp => ?_⟩
    · rcases List.mem_cons.1 h3 with e | e
      · rw [e]; simp at h1; simp; rcases h1 with h1 | h1 <;> simp [h1]
      · simp [e]
    · simp only [List.mem_cons] at hp
      rcases hp with rfl | rfl | hp
      · exact h5.trans h2.1
      · exact h5.trans h2.2
      · exact h4 p (by simp [hp])
def IsBest (c : List Int → Int) (l r : List Int) : Prop := r.Perm l ∧ ∀ p, p.Perm l → bet c r p
theorem best_is (c : List Int → Int) (l : List Int) : IsBest c l (bestS c l) := by
  have h := fold_best c (n := l.length) (perms l) l rfl fun p hp => (mem_perms.1 hp).length_eq
  refine ⟨?_, fun p hp => h.2 p (by simp [mem_perms.2 hp])⟩
  rcases List.mem_cons.1 h.1 with e | e
  · unfold bestS; rw [e]
  · exact mem_perms.1 e
theorem IsBest.eq {c : List Int → Int} {l r : List Int} (h : IsBest c l r) : r = bestS c l :=
  (h.2 _ (best_is c l).1).anti ((best_is c l).2 _ h.1)
theorem IsBest.perm {c : List Int → Int} {l m r : List Int} (h : IsBest c l r) (hm : m.Perm l) : IsBest c m r := ⟨h.1.trans hm.symm, fun p hp => h.2 p (hp.trans hm)⟩
theorem best_perm {c : List Int → Int} {l m : List Int} (hm : m.Perm l) : bestS c m = bestS c l := ((best_is c m).perm hm.symm).eq
theorem IsBest.cong {c d : List Int → Int} {l r : List Int} (h : IsBest c l r) (hc : ∀ p, p.Perm l → c p = d p) : IsBest d l r := ⟨h.1, fun p hp => by have := h.2 p hp; unfold bet at *; rwa [← hc p hp, ← hc r h.1]⟩
theorem best_cong {c d : List Int → Int} {l : List Int} (hc : ∀ p, p.Perm l → c p = d p) : bestS c l = bestS d l := ((best_is c l).cong hc).eq
/-- The least cost. -/
theorem best_cost {c : List Int → Int} {l p : List Int} (hp : p.Perm l) : c (bestS c l) ≤ c p := by
  rcases (best_is c l).2 p hp with h | ⟨h, -⟩ <;> omega
theorem cost_eq {c : List Int → Int} {l p : List Int} (hp : p.Perm l) (h : ∀ q, q.Perm l → c p ≤ c q) : c (bestS c l) = c p := by
  have h1 := best_cost (c := c) hp
  have h2 := h _ (best_is c l).1
  omega
/-- The way of cheapest: all up to the arrangement at hand. -/
structure Seen (c : List Int → Int) (l cur b : List Int) : Prop where
  cp : cur.Perm l
  bp : b.Perm l
  bl : le b cur
  all : ∀ p, p.Perm l → le p cur → bet c b p
theorem Seen.start {c : List Int → Int} {l s : List Int} (hs : s.Perm l) (h : s.Pairwise (· ≤ ·)) : Seen c l s s :=
  ⟨hs, hs, .refl _, fun p hp hle => by rw [hle.anti (rises_min h (hp.trans hs.symm))]; exact .refl _ _⟩
theorem Seen.done {c : List Int → Int} {l cur b : List Int} (h : Seen c l cur b) (hf : cur.Pairwise (· ≥ ·)) : b = bestS c l :=
  IsBest.eq ⟨h.bp, fun p hp => h.all p hp (falls_max hf (hp.trans h.cp.symm))⟩
theorem Seen.next {c : List Int → Int} {l cur b n : List Int} (h : Seen c l cur b) (hn : n.Perm l) (hlt : lx cur n) (hnx : ∀ p, p.Perm l → lx cur p → le n p) : Seen c l n (if c n < c b then n else b) := by
  have key : ∀ p, p.Perm l → le p n → le p cur ∨ p = n := fun p hp hle => by
    rcases le_or (a := p) (b := cur) (hp.length_eq.trans h.cp.length_eq.symm) with e | e
    · exact .inl e
    · exact .inr (hle.anti (hnx p hp e))
  split
  · rename_i hc
    refine ⟨hn, hn, .refl _, fun p hp hle => ?_⟩
    rcases key p hp hle with e | rfl
    · rcases h.all p hp e with e | ⟨e, -⟩ <;> exact .inl (by omega)
    · exact .refl _ _
  · rename_i hc
    have hbn : le b n := h.bl.trans (.inr hlt)
    refine ⟨hn, h.bp, hbn, fun p hp hle => ?_⟩
    rcases key p hp hle with e | rfl
    · exact h.all p hp e
    · rcases Int.lt_or_eq_of_le (Int.not_lt.1 hc) with e | e
      · exact .inl e
      · exact .inr ⟨e, hbn⟩
end Arr
/-! ### Steps -/
def df (a b : Int) : Int := max a b - min a b
theorem df_nn (a b : Int) : 0 ≤ df a b := by unfold df; omega
theorem df_comm (a b : Int) : df a b = df b a := by unfold df; omega
/-- The steps of a straight row. -/
def stp (l : List Int) : List Int := (List.range (l.length - 1)).map fun i => df (g l i) (g l (i + 1))
theorem mem_stp {l : List Int} {s : Int} : s ∈ stp l ↔ ∃ i, i + 1 < l.length ∧ df (g l i) (g l (i + 1)) = s := by
  simp only [stp, List.mem_map, List.mem_range]
  constructor
  · rintro ⟨i, h, e⟩; exact ⟨i, by omega, e⟩
  · rintro ⟨i, h, e⟩; exact ⟨i, by omega, e⟩
/-- The steps of a box. -/
def stepsS (r : Bool) (l : List Int) : List Int := stp l ++ if r = true ∧ 1 < l.length then [df (g l (l.length - 1)) (g l 0)] else []
def gr (l : List Int) : Int := l.foldl max 0
theorem foldl_max_ge : ∀ (l : List Int) (a : Int), a ≤ l.foldl max a ∧ ∀ x ∈ l, x ≤ l.foldl max a
  | [], a => by simp
  | b :: l, a => by
    have h := foldl_max_ge l (max a b)
    simp only [List.foldl_cons, List.mem_cons]
    refine ⟨by omega, ?_⟩
    rintro x (rfl | hx)
    · omega
    · exact h.2 x hx
theorem foldl_max_le {M : Int} : ∀ (l : List Int) (a : Int), a ≤ M → (∀ x ∈ l, x ≤ M) → l.foldl max a ≤ M
  | [], a, h, _ => by simpa using h
  | b :: l, a, h, h2 => foldl_max_le l (max a b) (by have := h2 b (by simp); omega) fun x hx => h2 x (by simp [hx])
theorem gr_nn (l : List Int) : 0 ≤ gr l := (foldl_max_ge l 0).1
theorem le_gr {l : List Int} {x : Int} (h : x ∈ l) : x ≤ gr l := (foldl_max_ge l 0).2 x h
theorem gr_le {l : List Int} {M : Int} (h0 : 0 ≤ M) (h : ∀ x ∈ l, x ≤ M) : gr l ≤ M := foldl_max_le l 0 h0 h
theorem gr_mem {l : List Int} (hn : ∀ x ∈ l, 0 ≤ x) (h : l ≠ []) : gr l ∈ l := by
  have key : ∀ (l : List Int) (a : Int), l.foldl max a = a ∨ l.foldl max a ∈ l := by
    intro l
    induction l with
    | nil => intro a; exact .inl rfl
    | cons b l ih =>
      intro a
      simp only [List.foldl_cons, List.mem_cons]
      rcases ih (max a b) with e | e
      · rw [e]
        by_cases hab : a ≤ b
        · right; left; omega
        · left; omega
      · exact .inr (.inr e)
  rcases key l 0 with e | e
  · cases l with
    | nil => exact absurd rfl h
    | cons b l =>
      have h1 := le_gr (l := b :: l) (x := b) (by simp)
      have h2 := hn b (by simp)
      have : gr (b :: l) = b := by unfold gr at *; omega
      rw [this]; simp
  · exact e
theorem gr_congr {l m : List Int} (h : ∀ x, x ∈ l ↔ x ∈ m) : gr l = gr m := by
  have h1 : gr l ≤ gr m := gr_le (gr_nn m) fun x hx => le_gr ((h x).1 hx)
  have h2 : gr m ≤ gr l := gr_le (gr_nn l) fun x hx => le_gr ((h x).2 hx)
  omega
def reachS (n : Nat) (r : Bool) : Nat := if r = true ∧ 2 < n then 2 else 1
/-- How far sorted shades lie apart. -/
def risesS (r : Bool) (s : List Int) : List Int := (List.range (s.length - reachS s.length r)).map fun i => g s (i + reachS s.length r) - g s i
def stepC (r : Bool) (l : List Int) : Int := gr (stepsS r l)
def Asc (l : List Int) : Prop := ∀ i j, i ≤ j → j < l.length → g l i ≤ g l j
theorem asc_of {l : List Int} (h : l.Pairwise (· ≤ ·)) : Asc l := by
  intro i j hij hj
  rcases Nat.lt_or_eq_of_le hij with e | rfl
  · rw [g_lt (by omega), g_lt hj]; exact List.pairwise_iff_getElem.1 h i j _ _ e
  · omega
theorem gmem {l : List Int} {i : Nat} (h : i < l.length) : g l i ∈ l := by rw [g_lt h]; exact List.getElem_mem h
theorem memg {l : List Int} {x : Int} (h : x ∈ l) : ∃ i, i < l.length ∧ g l i = x := by
  obtain ⟨i, hi, e⟩ := List.getElem_of_mem h
  exact ⟨i, hi, by rw [g_lt hi, e]⟩
/-- What stays on one side. -/
theorem side {l : List Int} {A B : Int} (hs : ∀ i, i + 1 < l.length → df (g l i) (g l (i + 1)) < B - A) (hx : ∀ i, i < l.length → g l i ≤ A ∨ B ≤ g l i) (k : Nat) (hk : k < l.length) : ∀ n, k + n < l.length → (g l k ≤ A ↔ g l (k + n) ≤ A)
  | 0, _ => Iff.rfl
  | n + 1, h => by
    have h1 := side hs hx k hk n (by omega)
    have h2 := hs (k + n) (by omega)
    have h3 := hx (k + n) (by omega)
    have h4 := hx (k + n + 1) (by omega)
    rw [h1]
    unfold df at h2
    rw [show k + (n + 1) = k + n + 1 by omega]
    omega
theorem cross {l : List Int} {A B : Int} (hAB : A < B) (hx : ∀ x ∈ l, x ≤ A ∨ B ≤ x) (h1 : ∃ x ∈ l, x ≤ A) (h2 : ∃ x ∈ l, B ≤ x) : ∃ i, i + 1 < l.length ∧ B - A ≤ df (g l i) (g l (i + 1)) := by
  apply Classical.byContradiction
  intro hn
  have hs : ∀ i, i + 1 < l.length → df (g l i) (g l (i + 1)) < B - A := fun i hi => by
    rcases Int.lt_or_le (df (g l i) (g l (i + 1))) (B - A) with e | e
    · exact e
    · exact absurd ⟨i, hi, e⟩ hn
  have hx' : ∀ i, i < l.length → g l i ≤ A ∨ B ≤ g l i := fun i hi => hx _ (gmem hi)
  obtain ⟨x, hx1, e1⟩ := h1
  obtain ⟨y, hy1, e2⟩ := h2
  obtain ⟨i, hi, rfl⟩ := memg hx1
  obtain ⟨j, hj, rfl⟩ := memg hy1
  rcases Nat.le_total i j with e | e
  · have := side hs hx' i hi (j - i) (by omega)
    rw [show i + (j - i) = j by omega] at this
    omega
  · have := side hs hx' j hj (i - j) (by omega)
    rw [show j + (i - j) = i by omega] at this
    omega
/-- A straight part of a box has no steps of its own. -/
theorem round_path {pre suf : List Int} {m : Int} {i : Nat} (h : i + 1 < (suf ++ pre).length) : df (g (suf ++ pre) i) (g (suf ++ pre) (i + 1)) ∈ stepsS true (pre ++ m :: suf) := by
  simp only [List.length_append] at h
  have hL : (pre ++ m :: suf).length = pre.length + 1 + suf.length := by simp; omega
  unfold stepsS
  rw [List.mem_append, mem_stp, hL]
  rw [g_app, g_app]
  by_cases h1 : i + 1 < suf.length
  · refine .inl ⟨pre.length + 1 + i, by omega, ?_⟩
    rw [if_pos (by omega), if_pos h1, g_app, g_app, if_neg (by omega), if_neg (by omega)]
    rw [show pre.length + 1 + i - pre.length = i + 1 by omega, show pre.length + 1 + i + 1 - pre.length = i + 1 + 1 by omega]
    rfl
  · by_cases h2 : i < suf.length
    · rw [if_pos h2, if_neg h1, if_pos (show true = true ∧ 1 < pre.length + 1 + suf.length from ⟨rfl, by omega⟩)]
      refine .inr ?_
      rw [g_app, g_app, if_neg (by omega), if_pos (by omega), List.mem_singleton]
      rw [show pre.length + 1 + suf.length - 1 - pre.length = i + 1 by omega, show i + 1 - suf.length = 0 by omega]
      rfl
    · refine .inl ⟨i - suf.length, by omega, ?_⟩
      rw [if_neg h2, if_neg h1, g_app, g_app, if_pos (by omega), if_pos (by omega), show i + 1 - suf.length = i - suf.length + 1 by omega]
theorem df_zero (a : Int) : df a a = 0 := by unfold df; omega
/-- No arrangement is below what two sorted shades prove. -/
theorem lower {r : Bool} {l s p : List Int} (hs : s.Pairwise (· ≤ ·)) (hsl : s.Perm l) (hp : p.Perm l) {i : Nat} (hi : i + reachS s.length r < s.length) : g s (i + reachS s.length r) - g s i ≤ stepC r p := by
  have hps : p.Perm s := hp.trans hsl.symm
  have hA := asc_of hs
  rcases Int.lt_or_le (g s i) (g s (i + reachS s.length r)) with hlt | hle
  case inr => have := gr_nn (stepsS r p); unfold stepC; omega
  unfold reachS at *
  split at hi
  · rename_i hc
    rw [if_pos hc] at hlt ⊢
    obtain ⟨rfl, hc⟩ := hc
    have hm : g s (i + 1) ∈ p := hps.mem_iff.2 (gmem (by omega))
    obtain ⟨pre, suf, rfl⟩ := List.append_of_mem hm
    have hd : s.Perm (g s (i + 1) :: (suf ++ pre)) := hps.symm.trans (List.perm_middle.trans (List.perm_append_comm.cons _))
    have hs2 : s.Perm (g s (i + 1) :: (s.take (i + 1) ++ s.drop (i + 2))) := by
      have e : s = s.take (i + 1) ++ g s (i + 1) :: s.drop (i + 2) := by
        have h1 : i + 1 < s.length := by omega
        rw [g_lt h1]
        rw [← List.drop_eq_getElem_cons h1, List.take_append_drop]
      exact (List.Perm.of_eq e).trans List.perm_middle
    have hq : (suf ++ pre).Perm (s.take (i + 1) ++ s.drop (i + 2)) := (List.perm_cons _).1 (hd.symm.trans hs2)
    obtain ⟨k, hk, hle⟩ := cross (l := suf ++ pre) (A := g s i) (B := g s (i + 2)) hlt (fun x hx => by
        rcases List.mem_append.1 (hq.mem_iff.1 hx) with hx | hx
        · obtain ⟨j, hj, rfl⟩ := memg hx
          simp at hj
          rw [g_take (by omega)]; exact .inl (hA _ _ (by omega) (by omega))
        · obtain ⟨j, hj, rfl⟩ := memg hx
          simp at hj
          rw [g_drop]; exact .inr (hA _ _ (by omega) (by omega)))
      ⟨g s i, hq.mem_iff.2 (List.mem_append.2 (.inl (by rw [← g_take (show i < i + 1 by omega)]; exact gmem (by simp; omega)))), Int.le_refl _⟩
      ⟨g s (i + 2), hq.mem_iff.2 (List.mem_append.2 (.inr (by have := g_drop s (i + 2) 0; rw [Nat.add_zero] at this; rw [← this]; exact gmem (by simp; omega)))), Int.le_refl _⟩
    exact Int.le_trans hle (le_gr (round_path hk))
  · rename_i hc
    rw [if_neg hc] at hlt ⊢
    obtain ⟨k, hk, hle⟩ := cross (l := p) (A := g s i) (B := g s (i + 1)) hlt (fun x hx => by
        obtain ⟨j, hj, rfl⟩ := memg (hps.mem_iff.1 hx)
        rcases Nat.lt_or_ge i j with e | e
        · exact .inr (hA _ _ (by omega) hj)
        · exact .inl (hA _ _ e (by omega)))
      ⟨g s i, hps.mem_iff.2 (gmem (by omega)), Int.le_refl _⟩ ⟨g s (i + 1), hps.mem_iff.2 (gmem (by omega)), Int.le_refl _⟩
    refine Int.le_trans hle (le_gr ?_)
    unfold stepsS
    exact List.mem_append.2 (.inl (mem_stp.2 ⟨k, hk, rfl⟩))
/-- Every second one. -/
def ev : List Int → List Int
  | [] => []
  | [a] => [a]
  | a :: _ :: l => a :: ev l
def od : List Int → List Int
  | [] => []
  | [_] => []
  | _ :: b :: l => b :: od l
theorem ev_len : ∀ l : List Int, (ev l).length = (l.length + 1) / 2
  | [] => rfl
  | [_] => by simp [ev]
  | _ :: _ :: l => by simp only [ev, List.length_cons, ev_len l]; omega
theorem od_len : ∀ l : List Int, (od l).length = l.length / 2
  | [] => rfl
  | [_] => by simp [od]
  | _ :: _ :: l => by simp only [od, List.length_cons, od_len l]; omega
theorem g_ev : ∀ (l : List Int) (i : Nat), i < (ev l).length → g (ev l) i = g l (2 * i)
  | [], _, h => by simp [ev] at h
  | [a], i, h => by
    have : i = 0 := by simp [ev] at h; omega
    subst this; rfl
  | a :: b :: l, 0, _ => rfl
  | a :: b :: l, i + 1, h => by
    have := g_ev l i (by simp [ev] at h; omega)
    simp only [ev]
    rw [show 2 * (i + 1) = 2 * i + 1 + 1 by omega]
    exact this
theorem g_od : ∀ (l : List Int) (i : Nat), i < (od l).length → g (od l) i = g l (2 * i + 1)
  | [], _, h => by simp [od] at h
  | [a], i, h => by simp [od] at h
  | a :: b :: l, 0, _ => rfl
  | a :: b :: l, i + 1, h => by
    have := g_od l i (by simp [od] at h; omega)
    simp only [od]
    rw [show 2 * (i + 1) + 1 = 2 * i + 1 + 1 + 1 by omega]
    exact this
theorem ev_od : ∀ l : List Int, (ev l ++ od l).Perm l
  | [] => .refl _
  | [_] => .refl _
  | a :: b :: l => by
    simp only [ev, od, List.cons_append]
    exact (List.perm_middle.trans ((ev_od l).cons b)).cons a
def zig (l : List Int) : List Int := ev l ++ (od l).reverse
theorem zig_perm (l : List Int) : (zig l).Perm l := ((List.reverse_perm _).append_left _).trans (ev_od l)
theorem g_rev {l : List Int} {i : Nat} (h : i < l.length) : g l.reverse i = g l (l.length - 1 - i) := by
  rw [g_lt (by simpa using h), g_lt (by omega), List.getElem_reverse]
theorem zig_len (l : List Int) : (zig l).length = l.length := (zig_perm l).length_eq
theorem g_zig (l : List Int) (i : Nat) (h : i < l.length) : g (zig l) i = if i < (l.length + 1) / 2 then g l (2 * i) else g l (2 * (l.length - 1 - i) + 1) := by
  unfold zig
  rw [g_app, ev_len]
  split
  · rename_i h1; rw [g_ev l i (by rw [ev_len]; exact h1)]
  · rename_i h1
    have := od_len l
    rw [g_rev (by omega), g_od l _ (by omega), this]
    congr 1; omega
/-- How low it goes. -/
theorem upper {r : Bool} {l s : List Int} (hs : s.Pairwise (· ≤ ·)) (hsl : s.Perm l) : ∃ p, p.Perm l ∧ stepC r p ≤ gr (risesS r s) := by
  have hA := asc_of hs
  have hge : ∀ i j, i ≤ j → j < s.length → df (g s i) (g s j) = g s j - g s i := fun i j h1 h2 => by have := hA i j h1 h2; unfold df; omega
  have hri : ∀ i, i + reachS s.length r < s.length → g s (i + reachS s.length r) - g s i ≤ gr (risesS r s) := fun i hi => le_gr (by
    unfold risesS
    exact List.mem_map.2 ⟨i, List.mem_range.2 (by omega), rfl⟩)
  unfold reachS at hri
  by_cases hc : r = true ∧ 2 < s.length
  · refine ⟨zig s, (zig_perm s).trans hsl, gr_le (gr_nn _) fun x hx => ?_⟩
    simp only [if_pos hc] at hri
    obtain ⟨rfl, hc⟩ := hc
    unfold stepsS at hx
    rw [List.mem_append, mem_stp, zig_len] at hx
    rcases hx with ⟨i, hi, rfl⟩ | hx
    · rw [g_zig s i (by omega), g_zig s (i + 1) (by omega)]
      by_cases h1 : i + 1 < (s.length + 1) / 2
      · rw [if_pos (by omega), if_pos h1, hge _ _ (by omega) (by omega), show 2 * (i + 1) = 2 * i + 2 by omega]
        exact hri _ (by omega)
      · by_cases h2 : i < (s.length + 1) / 2
        · rw [if_pos h2, if_neg h1]
          by_cases h3 : s.length % 2 = 0
          · rw [show 2 * (s.length - 1 - (i + 1)) + 1 = 2 * i + 1 by omega, hge _ _ (by omega) (by omega)]
            have a1 := hri (2 * i - 1) (by omega)
            have a2 := hA (2 * i - 1) (2 * i) (by omega) (by omega)
            rw [show 2 * i - 1 + 2 = 2 * i + 1 by omega] at a1
            omega
          · rw [show 2 * (s.length - 1 - (i + 1)) + 1 = 2 * i - 1 by omega, df_comm, hge _ _ (by omega) (by omega)]
            have a1 := hri (2 * i - 2) (by omega)
            have a2 := hA (2 * i - 2) (2 * i - 1) (by omega) (by omega)
            rw [show 2 * i - 2 + 2 = 2 * i by omega] at a1
            omega
        · rw [if_neg h2, if_neg h1, df_comm, hge _ _ (by omega) (by omega)]
          have := hri (2 * (s.length - 1 - (i + 1)) + 1) (by omega)
          rw [show 2 * (s.length - 1 - i) + 1 = 2 * (s.length - 1 - (i + 1)) + 1 + 2 by omega]
          exact this
    · rw [if_pos ⟨rfl, by omega⟩, List.mem_singleton] at hx
      subst hx
      rw [g_zig s _ (by omega), g_zig s 0 (by omega), if_neg (by omega), if_pos (by omega)]
      rw [show 2 * (s.length - 1 - (s.length - 1)) + 1 = 1 by omega, df_comm, hge _ _ (by omega) (by omega)]
      have a1 := hri 0 (by omega)
      have a2 := hA 1 2 (by omega) (by omega)
      simp only [Nat.zero_add, Nat.mul_zero] at a1 ⊢
      omega
  · refine ⟨s, hsl, gr_le (gr_nn _) fun x hx => ?_⟩
    simp only [if_neg hc] at hri
    unfold stepsS at hx
    rw [List.mem_append, mem_stp] at hx
    rcases hx with ⟨i, hi, rfl⟩ | hx
    · rw [hge _ _ (by omega) hi]; exact hri i hi
    · split at hx
      · rename_i h2
        have h2l : s.length = 2 := by
          rcases Nat.lt_or_ge 2 s.length with e | e
          · exact absurd ⟨h2.1, e⟩ hc
          · omega
        rw [List.mem_singleton] at hx
        subst hx
        rw [df_comm, hge _ _ (by omega) (by omega)]
        have := hri 0 (by omega)
        rw [h2l]
        simpa using this
      · simp at hx
/-- The smallest greatest step of all arrangements. -/
theorem least_eq {r : Bool} {l s : List Int} (hs : s.Pairwise (· ≤ ·)) (hsl : s.Perm l) : stepC r (Arr.bestS (stepC r) l) = gr (risesS r s) := by
  obtain ⟨p, hp, hle⟩ := upper (r := r) hs hsl
  have h1 := Arr.best_cost (c := stepC r) hp
  have h2 : gr (risesS r s) ≤ stepC r (Arr.bestS (stepC r) l) := gr_le (gr_nn _) fun x hx => by
    unfold risesS at hx
    obtain ⟨i, hi, rfl⟩ := List.mem_map.1 hx
    exact lower hs hsl (Arr.best_is _ l).1 (by rw [List.mem_range] at hi; omega)
  omega
end Go.Proofs.Ytpfkioakjmpimaa

/- Small functions of shade and of its reference. -/
namespace Go.Proofs.Ytpfkioakjmpimaa
open Go Go.Proofs.Ytpfkioakjmpimaa.AX

theorem in_ac (x lo hi : Int) (H : AH) (Q : AV → AH → Prop) (h : Q (.bool (decide (lo ≤ x ∧ x ≤ hi))) H) : AC Try.prog 64 [.int .i64 x, .int .i64 lo, .int .i64 hi] H Q := by
  refine L_body 15 Try.func64 rfl rfl ?_
  refine L_reg [0, 1, 2] (fun K hK => ?_)
  simp
  apply hK; clear hK K
  by_cases h1 : lo ≤ x
  · have e1 : decide (x ≥ lo) = true := by simpa using h1
    by_cases h2 : x ≤ hi
    · refine L_reg [6] (fun K hK => ?_)
      simp [h1, h2, pickV]
      apply hK; clear hK K
      exact L_ret ⟨.inr rfl, _, rfl, by simpa [h1, h2] using h⟩
    · refine L_reg [6] (fun K hK => ?_)
      simp [h1, h2, pickV]
      apply hK; clear hK K
      exact L_ret ⟨.inr rfl, _, rfl, by simpa [h1, h2] using h⟩
  · refine L_reg [6] (fun K hK => ?_)
    simp [h1, pickV]
    apply hK; clear hK K
    exact L_ret ⟨.inr rfl, _, rfl, by simpa [h1] using h⟩
theorem reach_ac (n : Nat) (r : Bool) (H : AH) (Q : AV → AH → Prop) (h : Q (.int .i64 (reachS n r)) H) : AC Try.prog 96 [.int .i64 n, .bool r] H Q := by
  refine L_body 10 Try.func96 rfl rfl ?_
  refine L_reg [0, 1] (fun K hK => ?_)
  simp
  apply hK; clear hK K
  unfold reachS at h
  cases r with
  | false =>
    refine L_reg [9] (fun K hK => ?_)
    simp [pickV]
    apply hK; clear hK K
    refine L_false (by simp) ?_
    refine L_reg [4] (fun K hK => ?_)
    simp
    apply hK; clear hK K
    exact L_ret ⟨.inr rfl, _, rfl, by simpa using h⟩
  | true =>
    by_cases h2 : 2 < n
    · have e : decide ((2 : Int) < n) = true := by simp; omega
      refine L_reg [9] (fun K hK => ?_)
      simp [pickV, e]
      apply hK; clear hK K
      refine L_true (by simp) ?_
      refine L_reg [4] (fun K hK => ?_)
      simp
      apply hK; clear hK K
      exact L_ret ⟨.inr rfl, _, rfl, by simpa [h2] using h⟩
    · have e : decide ((2 : Int) < n) = false := by simp; omega
      refine L_reg [9] (fun K hK => ?_)
      simp [pickV, e]
      apply hK; clear hK K
      refine L_false (by simp) ?_
      refine L_reg [4] (fun K hK => ?_)
      simp
      apply hK; clear hK K
      exact L_ret ⟨.inr rfl, _, rfl, by simpa [h2] using h⟩
theorem reachR_ac (v : AV) (l : List Int) (r : Bool) (H : AH) (Q : AV → AH → Prop) (hv : Ls H v l) (h : Q (.int .i64 (reachS l.length r)) H) : AC Try.prog 66 [v, .bool r] H Q := by
  have hl := ls_len hv
  refine L_body 11 Try.func66 rfl rfl ?_
  refine L_reg [0, 1] (fun K hK => ?_)
  simp
  apply hK; clear hK K
  unfold reachS at h
  cases r with
  | false =>
    refine L_reg [10] (fun K hK => ?_)
    simp [pickV]
    apply hK; clear hK K
    refine L_false (by simp) ?_
    refine L_reg [4] (fun K hK => ?_)
    simp
    apply hK; clear hK K
    exact L_ret ⟨.inr rfl, _, rfl, by simpa using h⟩
  | true =>
    by_cases h2 : 2 < l.length
    · have e : decide ((2 : Int) < l.length) = true := by simp; omega
      refine L_reg [10] (fun K hK => ?_)
      simp [pickV, e, hl]
      apply hK; clear hK K
      refine L_true (by simp) ?_
      refine L_reg [4] (fun K hK => ?_)
      simp
      apply hK; clear hK K
      exact L_ret ⟨.inr rfl, _, rfl, by simpa [h2] using h⟩
    · have e : decide ((2 : Int) < l.length) = false := by simp; omega
      refine L_reg [10] (fun K hK => ?_)
      simp [pickV, e, hl]
      apply hK; clear hK K
      refine L_false (by simp) ?_
      refine L_reg [4] (fun K hK => ?_)
      simp
      apply hK; clear hK K
      exact L_ret ⟨.inr rfl, _, rfl, by simpa [h2] using h⟩
def lenE (n : Nat) (m : Int) : Int := if n = 0 then 4 else if m < n then 3 else 0
theorem checkLength_ac (v : AV) (l : List Int) (m : Int) (H : AH) (Q : AV → AH → Prop) (hv : Ls H v l) (h : Q (.int .i64 (lenE l.length m)) H) : AC Try.prog 63 [v, .int .i64 m] H Q := by
  have hl := ls_len hv
  refine L_body 12 Try.func63 rfl rfl ?_
  refine L_reg [0, 1] (fun K hK => ?_)
  simp
  apply hK; clear hK K
  refine L_reg [0, 1, 7] (fun K hK => ?_)
  simp [hl]
  apply hK; clear hK K
  unfold lenE at h
  by_cases h0 : l.length = 0
  · refine L_true (by simp [h0]) ?_
    refine L_reg [4] (fun K hK => ?_)
    simp
    apply hK; clear hK K
    exact L_ret ⟨.inr rfl, _, rfl, by simpa [h0] using h⟩
  · refine L_false (by simp [h0]) ?_
    rw [if_neg h0] at h
    refine L_reg [11] (fun K hK => ?_)
    simp [hl]
    apply hK; clear hK K
    refine L_dec (m < l.length) (by simp) (fun h1 => ?_) (fun h1 => ?_)
    · refine L_reg [4] (fun K hK => ?_)
      simp
      apply hK; clear hK K
      exact L_ret ⟨.inr rfl, _, rfl, by simpa [h1] using h⟩
    · refine L_reg [4] (fun K hK => ?_)
      simp
      apply hK; clear hK K
      exact L_ret ⟨.inr rfl, _, rfl, by simpa [h1] using h⟩
/-- The error of shades. -/
def shE (l : List Int) : Int := if l.length = 0 then 4 else if 7 < l.length then 3 else if l.all (fun x => decide (0 ≤ x ∧ x ≤ 60)) = true then 0 else 1
theorem shE_all {l : List Int} (h0 : l.length ≠ 0) (h1 : ¬ 7 < l.length) (h : ∀ i, i < l.length → 0 ≤ g l i ∧ g l i ≤ 60) : shE l = 0 := by
  unfold shE
  rw [if_neg h0, if_neg h1, if_pos]
  simp only [List.all_eq_true, decide_eq_true_eq]
  intro x hx
  obtain ⟨i, hi, rfl⟩ := memg hx
  exact h i hi
theorem shE_bad {l : List Int} (h0 : l.length ≠ 0) (h1 : ¬ 7 < l.length) {i : Nat} (hi : i < l.length) (h : ¬ (0 ≤ g l i ∧ g l i ≤ 60)) : shE l = 1 := by
  unfold shE
  rw [if_neg h0, if_neg h1, if_neg]
  simp only [List.all_eq_true, decide_eq_true_eq]
  exact fun hh => h (hh _ (gmem hi))
theorem shE_ok {l : List Int} (h : shE l = 0) : 0 < l.length ∧ l.length ≤ 7 ∧ ∀ x ∈ l, 0 ≤ x ∧ x ≤ 60 := by
  unfold shE at h
  split at h
  · cases h
  split at h
  · cases h
  split at h
  · rename_i h0 h1 h2
    refine ⟨by omega, by omega, ?_⟩
    simpa [List.all_eq_true] using h2
  · cases h
theorem Check_ac (v : AV) (l : List Int) (H : AH) (Q : AV → AH → Prop) (hlen : l.length ≤ 1000000) (hv : Ls H v l) (h : Q (.int .i64 (shE l)) H) : AC Try.prog 20 [v] H Q := by
  have hl := ls_len hv
  refine L_body 24 Try.func20 rfl rfl ?_
  refine L_reg [0] (fun K hK => ?_)
  simp
  apply hK; clear hK K
  refine L_reg [0, 3] (fun K hK => ?_)
  simp [okFn_low]
  refine checkLength_ac _ l 7 _ _ hv ?_
  simp
  apply hK; clear hK K
  refine L_reg [0, 3, 9] (fun K hK => ?_)
  simp
  apply hK; clear hK K
  by_cases h0 : l.length = 0
  · have e : lenE l.length 7 = 4 := by simp [lenE, h0]
    rw [e]
    refine L_true (by simp) ?_
    refine L_reg [2] (fun K hK => ?_)
    simp
    apply hK; clear hK K
    have e2 : shE l = 4 := by simp [shE, h0]
    rw [e2] at h
    exact L_ret ⟨.inr rfl, _, rfl, h⟩
  by_cases h1 : 7 < l.length
  · have e : lenE l.length 7 = 3 := by unfold lenE; rw [if_neg h0, if_pos (by omega)]
    rw [e]
    refine L_true (by simp) ?_
    refine L_reg [2] (fun K hK => ?_)
    simp
    apply hK; clear hK K
    have e2 : shE l = 3 := by simp [shE, h0, h1]
    rw [e2] at h
    exact L_ret ⟨.inr rfl, _, rfl, h⟩
  have e : lenE l.length 7 = 0 := by unfold lenE; rw [if_neg h0, if_neg (by omega)]
  rw [e]
  refine L_false (by simp) ?_
  refine L_reg [11, 12, 13] (fun K hK => ?_)
  simp [hl]
  apply hK; clear hK K
  refine L_block (L_loopV [13] (fun n vs H' => ∃ i : Nat, n = l.length - i ∧ i ≤ l.length ∧ (∀ j, j < i → 0 ≤ g l j ∧ g l j ≤ 60) ∧ vs = [.int .i64 i] ∧ H = H') _ [.int .i64 0] rfl ⟨0, rfl, by omega, fun j hj => by omega, rfl, rfl⟩ ?_)
  rintro n _ _ ⟨i, rfl, hi, hall, rfl, rfl⟩
  refine L_reg [11, 12, 13, 14] (fun K hK => ?_)
  simp
  apply hK; clear hK K
  refine L_dec (i < l.length) (by simp) (fun hlt => ?_) (fun hge => L_exit ?_)
  · refine L_block ?_
    obtain ⟨rz, pz, vz, hix, hld⟩ := ls_ix hv hlt
    refine L_reg [5, 11, 12, 13] (fun K hK => ?_)
    simp [hix, hld]
    apply hK; clear hK K
    by_cases c1 : g l i < 0
    · refine L_reg [11, 12, 13, 22] (fun K hK => ?_)
      simp [c1, pickV]
      apply hK; clear hK K
      refine L_true (by simp) ?_
      refine L_reg [2] (fun K hK => ?_)
      simp
      apply hK; clear hK K
      rw [shE_bad h0 h1 hlt (by omega)] at h
      exact L_ret ⟨.inr rfl, _, rfl, h⟩
    · refine L_reg [11, 12, 13, 22] (fun K hK => ?_)
      simp [c1, pickV]
      apply hK; clear hK K
      refine L_dec (60 < g l i) (by simp) (fun c2 => ?_) (fun c2 => ?_)
      · refine L_reg [2] (fun K hK => ?_)
        simp
        apply hK; clear hK K
        rw [shE_bad h0 h1 hlt (by omega)] at h
        exact L_ret ⟨.inr rfl, _, rfl, h⟩
      · refine L_reg [11, 12, 13] (fun K hK => ?_)
        simp [wrap_i64 (a := (i : Int) + 1) (by omega)]
        apply hK; clear hK K
        refine ⟨l.length - (i + 1), [.int .i64 (i + 1 : Nat)], by omega, by simp, i + 1, rfl, by omega, fun j hj => ?_, rfl, rfl⟩
        rcases Nat.lt_or_ge j i with e | e
        · exact hall j e
        · rw [show j = i by omega]; omega
  · refine L_reg [2] (fun K hK => ?_)
    simp
    apply hK; clear hK K
    rw [shE_all h0 h1 fun j hj => hall j (by omega)] at h
    exact L_ret ⟨.inr rfl, _, rfl, h⟩
theorem CheckR_ac (v : AV) (l : List Int) (H : AH) (Q : AV → AH → Prop) (hlen : l.length ≤ 1000000) (hv : Ls H v l) (h : Q (.int .i64 (shE l)) H) : AC Try.prog 21 [v] H Q := by
  have hl := ls_len hv
  refine L_body 22 Try.func21 rfl rfl ?_
  refine L_reg [0] (fun K hK => ?_)
  simp
  apply hK; clear hK K
  refine L_reg [0, 6] (fun K hK => ?_)
  simp [hl]
  apply hK; clear hK K
  by_cases h0 : l.length = 0
  · refine L_true (by simp [h0]) ?_
    refine L_reg [2] (fun K hK => ?_)
    simp
    apply hK; clear hK K
    have e2 : shE l = 4 := by simp [shE, h0]
    rw [e2] at h
    exact L_ret ⟨.inr rfl, _, rfl, h⟩
  refine L_false (by simp [h0]) ?_
  refine L_reg [0, 9] (fun K hK => ?_)
  simp [hl]
  apply hK; clear hK K
  by_cases h1 : 7 < l.length
  · refine L_true (by simp; omega) ?_
    refine L_reg [2] (fun K hK => ?_)
    simp
    apply hK; clear hK K
    have e2 : shE l = 3 := by simp [shE, h0, h1]
    rw [e2] at h
    exact L_ret ⟨.inr rfl, _, rfl, h⟩
  refine L_false (by simp; omega) ?_
  refine L_reg [0, 3] (fun K hK => ?_)
  simp
  apply hK; clear hK K
  refine L_block (L_loopV [3] (fun n vs H' => ∃ i : Nat, n = l.length - i ∧ i ≤ l.length ∧ (∀ j, j < i → 0 ≤ g l j ∧ g l j ≤ 60) ∧ vs = [.int .i64 i] ∧ H = H') _ [.int .i64 0] rfl ⟨0, rfl, by omega, fun j hj => by omega, rfl, rfl⟩ ?_)
  rintro n _ _ ⟨i, rfl, hi, hall, rfl, rfl⟩
  refine L_reg [0, 3, 13] (fun K hK => ?_)
  simp [hl]
  apply hK; clear hK K
  refine L_dec (i < l.length) (by simp) (fun hlt => ?_) (fun hge => L_exit ?_)
  · refine L_block ?_
    obtain ⟨rz, pz, vz, hix, hld⟩ := ls_ix hv hlt
    refine L_reg [0, 3, 21] (fun K hK => ?_)
    simp [okFn_low, hix, hld]
    refine in_ac _ _ _ _ _ ?_
    simp
    apply hK; clear hK K
    by_cases c : 0 ≤ g l i ∧ g l i ≤ 60
    · refine L_false (by simp [c]) ?_
      refine L_reg [0, 3] (fun K hK => ?_)
      simp [wrap_i64 (a := (i : Int) + 1) (by omega)]
      apply hK; clear hK K
      refine ⟨l.length - (i + 1), [.int .i64 (i + 1 : Nat)], by omega, by simp, i + 1, rfl, by omega, fun j hj => ?_, rfl, rfl⟩
      rcases Nat.lt_or_ge j i with e | e
      · exact hall j e
      · rw [show j = i by omega]; exact c
    · refine L_true (by simp; omega) ?_
      refine L_reg [2] (fun K hK => ?_)
      simp
      apply hK; clear hK K
      rw [shE_bad h0 h1 hlt c] at h
      exact L_ret ⟨.inr rfl, _, rfl, h⟩
  · refine L_reg [2] (fun K hK => ?_)
    simp
    apply hK; clear hK K
    rw [shE_all h0 h1 fun j hj => hall j (by omega)] at h
    exact L_ret ⟨.inr rfl, _, rfl, h⟩
theorem has_ac (v : AV) (l : List Int) (x : Int) (H : AH) (Q : AV → AH → Prop) (hlen : l.length ≤ 1000000) (hv : Ls H v l) (h : Q (.bool (decide (x ∈ l))) H) : AC Try.prog 77 [v, .int .i64 x] H Q := by
  have hl := ls_len hv
  refine L_body 18 Try.func77 rfl rfl ?_
  refine L_reg [0, 1] (fun K hK => ?_)
  simp
  apply hK; clear hK K
  refine L_reg [0, 1, 5] (fun K hK => ?_)
  simp
  apply hK; clear hK K
  refine L_block (L_loopV [5] (fun n vs H' => ∃ i : Nat, n = l.length - i ∧ i ≤ l.length ∧ (∀ j, j < i → g l j ≠ x) ∧ vs = [.int .i64 i] ∧ H = H') _ [.int .i64 0] rfl ⟨0, rfl, by omega, fun j hj => by omega, rfl, rfl⟩ ?_)
  rintro n _ _ ⟨i, rfl, hi, hall, rfl, rfl⟩
  refine L_reg [0, 1, 5, 9] (fun K hK => ?_)
  simp [hl]
  apply hK; clear hK K
  refine L_dec (i < l.length) (by simp) (fun hlt => ?_) (fun hge => L_exit ?_)
  · refine L_block ?_
    obtain ⟨rz, pz, vz, hix, hld⟩ := ls_ix hv hlt
    refine L_reg [0, 1, 5, 17] (fun K hK => ?_)
    simp [hix, hld]
    apply hK; clear hK K
    by_cases c : g l i = x
    · refine L_true (by simp [c]) ?_
      refine L_reg [4] (fun K hK => ?_)
      simp
      apply hK; clear hK K
      rw [show decide (x ∈ l) = true by rw [← c]; simpa using gmem hlt] at h
      exact L_ret ⟨.inr rfl, _, rfl, h⟩
    · refine L_false (by simp [c]) ?_
      refine L_reg [0, 1, 5] (fun K hK => ?_)
      simp [wrap_i64 (a := (i : Int) + 1) (by omega)]
      apply hK; clear hK K
      refine ⟨l.length - (i + 1), [.int .i64 (i + 1 : Nat)], by omega, by simp, i + 1, rfl, by omega, fun j hj => ?_, rfl, rfl⟩
      rcases Nat.lt_or_ge j i with e | e
      · exact hall j e
      · rw [show j = i by omega]; exact c
  · refine L_reg [4] (fun K hK => ?_)
    simp
    apply hK; clear hK K
    rw [show decide (x ∈ l) = false by
      simp only [decide_eq_false_iff_not]
      intro hx
      obtain ⟨j, hj, e⟩ := memg hx
      exact hall j (by omega) e] at h
    exact L_ret ⟨.inr rfl, _, rfl, h⟩
/-- Numbers of a list that are small. -/
def Bd (M : Int) (l : List Int) : Prop := ∀ x ∈ l, -M ≤ x ∧ x ≤ M
theorem Bd.g {M : Int} {l : List Int} (h : Bd M l) {i : Nat} (hi : i < l.length) : -M ≤ Go.Proofs.Ytpfkioakjmpimaa.g l i ∧ Go.Proofs.Ytpfkioakjmpimaa.g l i ≤ M := h _ (gmem hi)
theorem gr_take {l : List Int} {i : Nat} (hi : i < l.length) : gr (l.take (i + 1)) = max (gr (l.take i)) (g l i) := by
  unfold gr
  rw [List.take_add_one, List.getElem?_eq_getElem hi, Option.toList_some, List.foldl_append, g_lt hi]
  rfl
theorem greatest_ac (v : AV) (l : List Int) (H : AH) (Q : AV → AH → Prop) (hlen : l.length ≤ 1000000) (hv : Ls H v l) (h : Q (.int .i64 (gr l)) H) : AC Try.prog 92 [v] H Q := by
  have hl := ls_len hv
  refine L_body 17 Try.func92 rfl rfl ?_
  refine L_reg [0] (fun K hK => ?_)
  simp
  apply hK; clear hK K
  refine L_reg [0, 3] (fun K hK => ?_)
  simp
  apply hK; clear hK K
  refine L_reg [3, 6, 7, 8] (fun K hK => ?_)
  simp [hl]
  apply hK; clear hK K
  refine L_block (L_loopV [3, 8] (fun n vs H' => ∃ i : Nat, n = l.length - i ∧ i ≤ l.length ∧ vs = [.int .i64 (gr (l.take i)), .int .i64 i] ∧ H = H') _ [.int .i64 0, .int .i64 0] rfl ⟨0, rfl, by omega, rfl, rfl⟩ ?_)
  rintro n _ _ ⟨i, rfl, hi, rfl, rfl⟩
  refine L_reg [3, 6, 7, 8, 9] (fun K hK => ?_)
  simp
  apply hK; clear hK K
  refine L_dec (i < l.length) (by simp) (fun hlt => ?_) (fun hge => L_exit ?_)
  · refine L_block ?_
    obtain ⟨rz, pz, vz, hix, hld⟩ := ls_ix hv hlt
    refine L_reg [3, 5, 6, 7, 8] (fun K hK => ?_)
    simp [hix, hld]
    apply hK; clear hK K
    refine L_reg [3, 6, 7, 8] (fun K hK => ?_)
    simp
    apply hK; clear hK K
    refine L_reg [3, 6, 7, 8] (fun K hK => ?_)
    simp [wrap_i64 (a := (i : Int) + 1) (by omega)]
    apply hK; clear hK K
    exact ⟨l.length - (i + 1), [.int .i64 (gr (l.take (i + 1))), .int .i64 (i + 1 : Nat)], by omega, by simp [gr_take hlt], i + 1, rfl, by omega, rfl, rfl⟩
  · rw [List.take_of_length_le (by omega)]
    refine L_reg [2] (fun K hK => ?_)
    simp
    apply hK; clear hK K
    exact L_ret ⟨.inr rfl, _, rfl, h⟩
theorem sum_take {l : List Int} {i : Nat} (hi : i < l.length) : (l.take (i + 1)).sum = (l.take i).sum + g l i := by
  rw [List.take_add_one, List.getElem?_eq_getElem hi, Option.toList_some, List.sum_append, g_lt hi]
  simp
theorem sum_bd {M : Int} (hM : 0 ≤ M) : ∀ {l : List Int}, Bd M l → -(M * l.length) ≤ l.sum ∧ l.sum ≤ M * l.length
  | [], _ => by simp
  | a :: l, h => by
    have h1 := h a (by simp)
    have h2 := sum_bd hM (l := l) fun x hx => h x (by simp [hx])
    simp only [List.sum_cons, List.length_cons]
    have : M * ((l.length + 1 : Nat) : Int) = M * l.length + M := by
      rw [show ((l.length + 1 : Nat) : Int) = (l.length : Int) + 1 by omega, Int.mul_add, Int.mul_one]
    omega
theorem sum_small {M : Int} {l : List Int} (h0 : 0 ≤ M) (h : Bd M l) (hM : M ≤ 1000000000) (hl : l.length ≤ 1000000) : -1000000000000000 ≤ l.sum ∧ l.sum ≤ 1000000000000000 := by
  have h1 := sum_bd h0 h
  have h2 : M * (l.length : Int) ≤ 1000000000 * 1000000 := Int.mul_le_mul hM (by omega) (by omega) (by omega)
  omega
theorem Bd.take {M : Int} {l : List Int} (h : Bd M l) (i : Nat) : Bd M (l.take i) := fun x hx => h x (List.mem_of_mem_take hx)
theorem total_ac (v : AV) (l : List Int) (H : AH) (Q : AV → AH → Prop) (hlen : l.length ≤ 1000000) (hb : Bd 1000000000 l) (hv : Ls H v l) (h : Q (.int .i64 l.sum) H) : AC Try.prog 95 [v] H Q := by
  have hl := ls_len hv
  refine L_body 17 Try.func95 rfl rfl ?_
  refine L_reg [0] (fun K hK => ?_)
  simp
  apply hK; clear hK K
  refine L_reg [0, 3] (fun K hK => ?_)
  simp
  apply hK; clear hK K
  refine L_reg [3, 6, 7, 8] (fun K hK => ?_)
  simp [hl]
  apply hK; clear hK K
  refine L_block (L_loopV [3, 8] (fun n vs H' => ∃ i : Nat, n = l.length - i ∧ i ≤ l.length ∧ vs = [.int .i64 (l.take i).sum, .int .i64 i] ∧ H = H') _ [.int .i64 0, .int .i64 0] rfl ⟨0, rfl, by omega, rfl, rfl⟩ ?_)
  rintro n _ _ ⟨i, rfl, hi, rfl, rfl⟩
  refine L_reg [3, 6, 7, 8, 9] (fun K hK => ?_)
  simp
  apply hK; clear hK K
  refine L_dec (i < l.length) (by simp) (fun hlt => ?_) (fun hge => L_exit ?_)
  · refine L_block ?_
    obtain ⟨rz, pz, vz, hix, hld⟩ := ls_ix hv hlt
    have hs := sum_small (by decide) (hb.take (i + 1)) (by decide) (by simp; omega)
    rw [sum_take hlt] at hs
    refine L_reg [3, 5, 6, 7, 8] (fun K hK => ?_)
    simp [hix, hld]
    apply hK; clear hK K
    refine L_reg [3, 6, 7, 8] (fun K hK => ?_)
    simp [wrap_i64 (a := (l.take i).sum + g l i) (by omega)]
    apply hK; clear hK K
    refine L_reg [3, 6, 7, 8] (fun K hK => ?_)
    simp [wrap_i64 (a := (i : Int) + 1) (by omega)]
    apply hK; clear hK K
    exact ⟨l.length - (i + 1), [.int .i64 (l.take (i + 1)).sum, .int .i64 (i + 1 : Nat)], by omega, by simp [sum_take hlt], i + 1, rfl, by omega, rfl, rfl⟩
  · rw [List.take_of_length_le (by omega)]
    refine L_reg [2] (fun K hK => ?_)
    simp
    apply hK; clear hK K
    exact L_ret ⟨.inr rfl, _, rfl, h⟩
end Go.Proofs.Ytpfkioakjmpimaa

/- Steps of a box, as the reference finds them. -/
namespace Go.Proofs.Ytpfkioakjmpimaa
open Go Go.Proofs.Ytpfkioakjmpimaa.AX

theorem stp_take {l : List Int} {i : Nat} (h : i + 1 < l.length) : (stp l).take (i + 1) = (stp l).take i ++ [df (g l i) (g l (i + 1))] := by
  unfold stp
  rw [List.take_add_one]
  congr 1
  rw [List.getElem?_map, List.getElem?_range (by omega)]
  rfl
theorem stp_len (l : List Int) : (stp l).length = l.length - 1 := by simp [stp]
theorem sh_g {l : List Int} (hb : Bd 1000 l) {i : Nat} (hi : i < l.length) : -1000 ≤ g l i ∧ g l i ≤ 1000 := hb.g hi
set_option maxRecDepth 100000 in
theorem stepsR_ac (v : AV) (l : List Int) (r : Bool) (H : AH) (Q : AV → AH → Prop) (hlen : l.length ≤ 1000000) (hb : Bd 1000 l) (hv : Ls H v l)
    (h : ∀ v H', OwnF H.length H' v ((stepsS r l).map (.int .i64)) → Ext H H' → Q v H') : AC Try.prog 94 [v, .bool r] H Q := by
  have hl := ls_len hv
  refine L_body 69 Try.func94 rfl rfl ?_
  refine L_reg [0, 1] (fun K hK => ?_)
  simp
  apply hK; clear hK K
  refine L_reg [0, 1, 5] (fun K hK => ?_)
  simp
  apply hK; clear hK K
  refine L_reg [0, 1, 5, 6] (fun K hK => ?_)
  simp
  apply hK; clear hK K
  refine L_block (L_loopV [5, 6] (fun n vs H' => ∃ (i : Nat) (w : AV), n = l.length - i ∧ i ≤ l.length ∧ vs = [w, .int .i64 i] ∧ OwnF H.length H' w (((stp l).take i).map (.int .i64)) ∧ Ext H H') _ [.slice none 0 0 0 1 false, .int .i64 0] rfl ⟨0, _, rfl, by omega, rfl, .nil _ _, .refl _⟩ ?_)
  rintro n _ H1 ⟨i, w, rfl, hi, rfl, hO, hE⟩
  have hv1 := hv.ext hE
  refine L_reg [0, 1, 5, 6, 11] (fun K hK => ?_)
  simp [hl, wrap_i64 (a := (i : Int) + 1) (by omega)]
  apply hK; clear hK K
  refine L_dec ((i : Int) + 1 < l.length) (by simp) (fun hlt => ?_) (fun hge => L_exit ?_)
  · refine L_block ?_
    have h1 : i + 1 < l.length := by omega
    have b1 := sh_g hb (i := i) (by omega)
    have b2 := sh_g hb h1
    obtain ⟨rz, pz, vz, hix, hld⟩ := ls_ix hv1 (i := i) (by omega)
    obtain ⟨ry, py, vy, hiy, hldy⟩ := ls_ix hv1 h1
    obtain ⟨v', H2, happ, hO2, hE2⟩ := ownF_append hE el22 el22 (x := .int .i64 (df (g l i) (g l (i + 1)))) (m := 1) hO rfl (by simp; omega)
    rw [show ((i + 1 : Nat) : Int) = (i : Int) + 1 by omega] at hiy
    have e2 : max (g l i) (g l (i + 1)) - min (g l i) (g l (i + 1)) = df (g l i) (g l (i + 1)) := rfl
    refine L_regT mixed [0, 1, 5, 6] (by kernel_rfl) (fun K hK => ?_)
    simp [hix, hld, wrap_i64 (a := (i : Int) + 1) (by omega), hiy, hldy, e2, wrap_i64 (a := df (g l i) (g l (i + 1))) (by unfold df; omega), happ]
    apply hK; clear hK K
    refine L_reg [0, 1, 5, 6] (fun K hK => ?_)
    simp [wrap_i64 (a := (i : Int) + 1) (by omega)]
    apply hK; clear hK K
    refine ⟨l.length - (i + 1), [v', .int .i64 (i + 1 : Nat)], by omega, by simp, i + 1, v', rfl, by omega, rfl, ?_, hE2⟩
    rw [stp_take h1]
    simpa using hO2
  · rw [List.take_of_length_le (by rw [stp_len]; omega)] at hO
    unfold stepsS at h
    cases r with
    | false =>
      refine L_reg [0, 5, 43] (fun K hK => ?_)
      simp [pickV]
      apply hK; clear hK K
      refine L_false (by simp) ?_
      refine L_reg [4] (fun K hK => ?_)
      simp
      apply hK; clear hK K
      exact L_ret ⟨.inr rfl, _, rfl, h w H1 (by simpa using hO) hE⟩
    | true =>
      by_cases h2 : 1 < l.length
      · have e : decide ((1 : Int) < l.length) = true := by simp; omega
        refine L_reg [0, 5, 43] (fun K hK => ?_)
        simp [pickV, e, hl]
        apply hK; clear hK K
        refine L_true (by simp) ?_
        have b1 := sh_g hb (i := 0) (by omega)
        have b2 := sh_g hb (i := l.length - 1) (by omega)
        obtain ⟨rz, pz, vz, hix, hld⟩ := ls_ix hv1 (i := 0) (by omega)
        obtain ⟨ry, py, vy, hiy, hldy⟩ := ls_ix hv1 (i := l.length - 1) (by omega)
        obtain ⟨v', H2, happ, hO2, hE2⟩ := ownF_append hE el22 el22 (x := .int .i64 (df (g l (l.length - 1)) (g l 0))) (m := 1) hO rfl (by simp [stp_len]; omega)
        have e1 : (l.length : Int) - 1 = ((l.length - 1 : Nat) : Int) := by omega
        have e2 : max (g l 0) (g l (l.length - 1)) - min (g l 0) (g l (l.length - 1)) = df (g l (l.length - 1)) (g l 0) := by rw [df_comm]; rfl
        have hix0 : ∀ k, aIndexAddr Try.prog 22 v (.int k 0) = some (.ptr rz pz vz) := hix
        refine L_regT mixed [5] (by kernel_rfl) (fun K hK => ?_)
        simp [hl, hix0, hld, e1, wrap_i64 (a := ((l.length - 1 : Nat) : Int)) (by omega), hiy, hldy, e2, wrap_i64 (a := df (g l (l.length - 1)) (g l 0)) (by unfold df; omega), happ]
        apply hK; clear hK K
        refine L_reg [4] (fun K hK => ?_)
        simp
        apply hK; clear hK K
        exact L_ret ⟨.inr rfl, _, rfl, h v' H2 (by simpa [h2] using hO2) hE2⟩
      · have e : decide ((1 : Int) < l.length) = false := by simp; omega
        refine L_reg [0, 5, 43] (fun K hK => ?_)
        simp [pickV, e, hl]
        apply hK; clear hK K
        refine L_false (by simp) ?_
        refine L_reg [4] (fun K hK => ?_)
        simp
        apply hK; clear hK K
        exact L_ret ⟨.inr rfl, _, rfl, h w H1 (by simpa [h2] using hO) hE⟩
theorem df_bd {l : List Int} (hb : Bd 1000 l) {r : Bool} : Bd 2000 (stepsS r l) := by
  intro x hx
  unfold stepsS at hx
  rcases List.mem_append.1 hx with hx | hx
  · obtain ⟨i, hi, rfl⟩ := mem_stp.1 hx
    have b1 := sh_g hb (i := i) (by omega)
    have b2 := sh_g hb hi
    unfold df; omega
  · split at hx
    · rename_i h2
      rw [List.mem_singleton] at hx
      subst hx
      have b1 := sh_g hb (i := 0) (by omega)
      have b2 := sh_g hb (i := l.length - 1) (by omega)
      unfold df; omega
    · simp at hx
theorem stepsS_len (r : Bool) (l : List Int) : (stepsS r l).length ≤ l.length := by
  unfold stepsS
  rw [List.length_append, stp_len]
  split
  · simp; omega
  · simp
def sumC (r : Bool) (l : List Int) : Int := (stepsS r l).sum
theorem greatestR_e (v : AV) (l : List Int) (r : Bool) (H : AH) (Q : AV → AH → Prop) (hlen : l.length ≤ 1000000) (hb : Bd 1000 l) (hv : Ls H v l) (h : ∀ H', Ext H H' → Q (.int .i64 (stepC r l)) H') : AC Try.prog 60 [v, .bool r] H Q := by
  refine L_body 24 Try.func60 rfl rfl ?_
  refine L_reg [0, 1] (fun K hK => ?_)
  simp
  apply hK; clear hK K
  refine L_reg [0, 1, 5] (fun K hK => ?_)
  simp
  apply hK; clear hK K
  refine L_reg [5, 6] (fun K hK => ?_)
  simp [okFn_low]
  refine stepsR_ac v l r _ _ hlen hb hv (fun w H1 hO hE => ?_)
  simp
  apply hK; clear hK K
  have hsl := stepsS_len r l
  unfold stepC at h
  generalize stepsS r l = s at hO hsl h
  have hw := hO.own.ls
  have hl := ls_len hw
  refine L_reg [5, 6, 7] (fun K hK => ?_)
  simp
  apply hK; clear hK K
  refine L_block (L_loopV [5, 7] (fun n vs H' => ∃ i : Nat, n = s.length - i ∧ i ≤ s.length ∧ vs = [.int .i64 (gr (s.take i)), .int .i64 i] ∧ H1 = H') _ [.int .i64 0, .int .i64 0] rfl ⟨0, rfl, by omega, rfl, rfl⟩ ?_)
  rintro n _ _ ⟨i, rfl, hi, rfl, rfl⟩
  refine L_reg [5, 6, 7, 14] (fun K hK => ?_)
  simp [hl]
  apply hK; clear hK K
  refine L_dec (i < s.length) (by simp) (fun hlt => ?_) (fun hge => L_exit ?_)
  · refine L_block ?_
    obtain ⟨rz, pz, vz, hix, hld⟩ := ls_ix hw hlt
    refine L_reg [5, 6, 7] (fun K hK => ?_)
    simp [hix, hld]
    apply hK; clear hK K
    refine L_reg [5, 6, 7] (fun K hK => ?_)
    simp [wrap_i64 (a := (i : Int) + 1) (by omega)]
    apply hK; clear hK K
    exact ⟨s.length - (i + 1), [.int .i64 (gr (s.take (i + 1))), .int .i64 (i + 1 : Nat)], by omega, by simp [gr_take hlt], i + 1, rfl, by omega, rfl, rfl⟩
  · rw [List.take_of_length_le (by omega)]
    refine L_reg [4] (fun K hK => ?_)
    simp
    apply hK; clear hK K
    exact L_ret ⟨.inr rfl, _, rfl, h H1 hE⟩
theorem greatestR_ac (v : AV) (l : List Int) (r : Bool) (H : AH) (Q : AV → AH → Prop) (hlen : l.length ≤ 1000000) (hb : Bd 1000 l) (hv : Ls H v l) (h : Q (.int .i64 (stepC r l)) H) : AC Try.prog 60 [v, .bool r] H Q :=
  AC.quiet (belB_int _ _ _ _) (fun Q h => greatestR_e v l r H Q hlen hb hv h) Q h
theorem sumR_e (v : AV) (l : List Int) (r : Bool) (H : AH) (Q : AV → AH → Prop) (hlen : l.length ≤ 1000000) (hb : Bd 1000 l) (hv : Ls H v l) (h : ∀ H', Ext H H' → Q (.int .i64 (sumC r l)) H') : AC Try.prog 62 [v, .bool r] H Q := by
  refine L_body 24 Try.func62 rfl rfl ?_
  refine L_reg [0, 1] (fun K hK => ?_)
  simp
  apply hK; clear hK K
  refine L_reg [0, 1, 5] (fun K hK => ?_)
  simp
  apply hK; clear hK K
  refine L_reg [5, 6] (fun K hK => ?_)
  simp [okFn_low]
  refine stepsR_ac v l r _ _ hlen hb hv (fun w H1 hO hE => ?_)
  simp
  apply hK; clear hK K
  have hsl := stepsS_len r l
  have hbd := df_bd hb (r := r)
  unfold sumC at h
  generalize stepsS r l = s at hO hsl h hbd
  have hw := hO.own.ls
  have hl := ls_len hw
  refine L_reg [5, 6, 7] (fun K hK => ?_)
  simp
  apply hK; clear hK K
  refine L_block (L_loopV [5, 7] (fun n vs H' => ∃ i : Nat, n = s.length - i ∧ i ≤ s.length ∧ vs = [.int .i64 (s.take i).sum, .int .i64 i] ∧ H1 = H') _ [.int .i64 0, .int .i64 0] rfl ⟨0, rfl, by omega, rfl, rfl⟩ ?_)
  rintro n _ _ ⟨i, rfl, hi, rfl, rfl⟩
  refine L_reg [5, 6, 7, 14] (fun K hK => ?_)
  simp [hl]
  apply hK; clear hK K
  refine L_dec (i < s.length) (by simp) (fun hlt => ?_) (fun hge => L_exit ?_)
  · refine L_block ?_
    obtain ⟨rz, pz, vz, hix, hld⟩ := ls_ix hw hlt
    have hs := sum_small (by decide) (hbd.take (i + 1)) (by decide) (by simp; omega)
    rw [sum_take hlt] at hs
    refine L_reg [5, 6, 7] (fun K hK => ?_)
    simp [hix, hld, wrap_i64 (a := (s.take i).sum + g s i) (by omega)]
    apply hK; clear hK K
    refine L_reg [5, 6, 7] (fun K hK => ?_)
    simp [wrap_i64 (a := (i : Int) + 1) (by omega)]
    apply hK; clear hK K
    exact ⟨s.length - (i + 1), [.int .i64 (s.take (i + 1)).sum, .int .i64 (i + 1 : Nat)], by omega, by simp [sum_take hlt], i + 1, rfl, by omega, rfl, rfl⟩
  · rw [List.take_of_length_le (by omega)]
    refine L_reg [4] (fun K hK => ?_)
    simp
    apply hK; clear hK K
    exact L_ret ⟨.inr rfl, _, rfl, h H1 hE⟩
theorem sumR_ac (v : AV) (l : List Int) (r : Bool) (H : AH) (Q : AV → AH → Prop) (hlen : l.length ≤ 1000000) (hb : Bd 1000 l) (hv : Ls H v l) (h : Q (.int .i64 (sumC r l)) H) : AC Try.prog 62 [v, .bool r] H Q :=
  AC.quiet (belB_int _ _ _ _) (fun Q h => sumR_e v l r H Q hlen hb hv h) Q h
end Go.Proofs.Ytpfkioakjmpimaa

/- Neighbours, and the steps of a box, as the program finds them. -/
namespace Go.Proofs.Ytpfkioakjmpimaa
open Go Go.Proofs.Ytpfkioakjmpimaa.AX

/-- The pairs of neighbours. -/
def prs (r : Bool) (l : List Int) : List (Int × Int) := ((List.range (l.length - 1)).map fun i => (g l i, g l (i + 1))) ++ if r = true ∧ 1 < l.length then [(g l (l.length - 1), g l 0)] else []
theorem prs_steps (r : Bool) (l : List Int) : stepsS r l = (prs r l).map fun p => df p.1 p.2 := by
  unfold stepsS prs stp
  rw [List.map_append, List.map_map]
  congr 1
  split <;> rfl
theorem prs_at {r : Bool} {l : List Int} {i : Nat} (h : i + 1 < l.length) : (prs r l)[i]? = some (g l i, g l (i + 1)) := by
  unfold prs
  rw [List.getElem?_append_left (by simp; omega), List.getElem?_map, List.getElem?_range (by omega)]
  rfl
theorem prs_last {l : List Int} (h : 1 < l.length) : (prs true l)[l.length - 1]? = some (g l (l.length - 1), g l 0) := by
  unfold prs
  rw [List.getElem?_append_right (by simp), if_pos ⟨rfl, h⟩]
  simp
theorem prs_lenF {r : Bool} {l : List Int} (h : ¬ (r = true ∧ 1 < l.length)) : (prs r l).length = l.length - 1 := by
  unfold prs
  rw [if_neg h]; simp
theorem prs_lenT {l : List Int} (h : 1 < l.length) : (prs true l).length = l.length - 1 + 1 := by
  unfold prs
  rw [if_pos ⟨rfl, h⟩]; simp
set_option maxRecDepth 100000 in
theorem nb1_ac (rr pl pr : Nat) (v : AV) (l : List Int) (r : Bool) (J : Nat → AH → Prop) (Z : AH → Prop) (H : AH) (Q : AV → AH → Prop) (hlen : l.length ≤ 1000000)
    (hv : ∀ k H, J k H → (∃ s, H[pl]? = some (.row [v] 0 s false)) ∧ (∃ s, H[pr]? = some (.row [.bool r] 0 s false)) ∧ Ls H v l)
    (hy : ∀ k a b H, (prs r l)[k]? = some (a, b) → J k H → AYld Try.prog rr [.int .i64 a, .int .i64 b] H fun u H' => ∃ t, u = .bool t ∧ if t = true then J (k + 1) H' else Z H')
    (hJ : J 0 H) (h1 : ∀ H', J (prs r l).length H' → Q (.tuple []) H') (h2 : ∀ H', Z H' → Q (.tuple []) H') : AC Try.prog 109 [.yld rr, .ptr pl 0 0, .ptr pr 0 0] H Q := by
  refine L_body 40 Try.func109 rfl rfl ?_
  refine L_reg [0, 1, 2, 4] (fun K hK => ?_)
  simp
  apply hK; clear hK K
  refine L_block (L_loopV [4] (fun n vs H' => ∃ i : Nat, n = l.length - i ∧ 1 ≤ i ∧ (i ≤ l.length ∨ i = 1) ∧ vs = [.int .i64 i] ∧ J (i - 1) H') _ [.int .i64 1] rfl ⟨1, rfl, by omega, by omega, rfl, hJ⟩ ?_)
  rintro n _ H1 ⟨i, rfl, hi1, hi, rfl, hJ1⟩
  obtain ⟨⟨s1, q1⟩, ⟨s2, q2⟩, hv1⟩ := hv _ _ hJ1
  have e1 : ld H1 pl 0 0 = some v := by
    obtain ⟨r0, off, ver, sz, full, rfl, -⟩ := id hv1
    rw [ld_row q1]; rfl
  have e2 : ld H1 pr 0 0 = some (.bool r) := by rw [ld_row q2]; rfl
  have hl := ls_len hv1
  refine L_reg [0, 1, 2, 4, 8] (fun K hK => ?_)
  simp [e1, hl]
  apply hK; clear hK K
  refine L_dec (i < l.length) (by simp) (fun hlt => ?_) (fun hge => L_exit ?_)
  · refine L_block ?_
    obtain ⟨rz, pz, vz, hix, hld⟩ := ls_ix hv1 (i := i - 1) (by omega)
    obtain ⟨ry, py, vy, hiy, hldy⟩ := ls_ix hv1 hlt
    have e3 : (i : Int) - 1 = ((i - 1 : Nat) : Int) := by omega
    have hp := prs_at (r := r) (l := l) (i := i - 1) (by omega)
    rw [show i - 1 + 1 = i by omega] at hp
    refine L_regM mixed 10 [0, 1, 2, 4, 22] (by decide) (by kernel_rfl) (fun K hK => ?_)
    simp [e1, e3, wrap_i64 (a := ((i - 1 : Nat) : Int)) (by omega), hix, hld, hiy, hldy]
    refine (hy _ _ _ _ hp hJ1).mono ?_
    rintro _ H2 ⟨t, rfl, ht⟩
    simp
    apply hK; clear hK K
    cases t with
    | false =>
      refine L_true rfl ?_
      exact L_ret ⟨.inr rfl, _, rfl, h2 _ (by simpa using ht)⟩
    | true =>
      refine L_false rfl ?_
      refine L_reg [0, 1, 2, 4] (fun K hK => ?_)
      simp [wrap_i64 (a := (i : Int) + 1) (by omega)]
      apply hK; clear hK K
      refine ⟨l.length - (i + 1), [.int .i64 (i + 1 : Nat)], by omega, by simp, i + 1, rfl, by omega, by omega, rfl, ?_⟩
      rw [show i + 1 - 1 = i - 1 + 1 by omega]
      simpa using ht
  · by_cases hr : r = true ∧ 1 < l.length
    · obtain ⟨rfl, hn⟩ := hr
      have hi' : i = l.length := by omega
      subst hi'
      have e4 : decide ((1 : Int) < l.length) = true := by simp; omega
      refine L_reg [0, 1, 28] (fun K hK => ?_)
      simp [e1, e2, hl, e4, pickV]
      apply hK; clear hK K
      refine L_true rfl ?_
      obtain ⟨rz, pz, vz, hix, hld⟩ := ls_ix hv1 (i := l.length - 1) (by omega)
      obtain ⟨ry, py, vy, hiy, hldy⟩ := ls_ix hv1 (i := 0) (by omega)
      have hiy0 : ∀ k, aIndexAddr Try.prog 22 v (.int k 0) = some (.ptr ry py vy) := hiy
      have e3 : (l.length : Int) - 1 = ((l.length - 1 : Nat) : Int) := by omega
      refine L_regM mixed 10 [] (by decide) (by kernel_rfl) (fun K hK => ?_)
      simp [e1, hl, e3, wrap_i64 (a := ((l.length - 1 : Nat) : Int)) (by omega), hix, hld, hiy0, hldy]
      refine (hy _ _ _ _ (prs_last hn) hJ1).mono ?_
      rintro _ H2 ⟨t, rfl, ht⟩
      simp
      apply hK; clear hK K
      refine ⟨.inl rfl, _, rfl, ?_⟩
      cases t with
      | false => exact h2 _ (by simpa using ht)
      | true => exact h1 _ (by rw [prs_lenT hn]; simpa using ht)
    · have hq : Q (.tuple []) H1 := h1 _ (by rw [prs_lenF hr, show l.length - 1 = i - 1 by omega]; exact hJ1)
      cases r with
      | false =>
        refine L_reg [0, 1, 28] (fun K hK => ?_)
        simp [e2, pickV]
        apply hK; clear hK K
        refine L_false rfl ?_
        exact ⟨.inl rfl, _, rfl, hq⟩
      | true =>
        have hn1 : ¬ 1 < l.length := fun h => hr ⟨rfl, h⟩
        have e4 : decide ((1 : Int) < l.length) = false := by simp; omega
        refine L_reg [0, 1, 28] (fun K hK => ?_)
        simp [e1, e2, hl, e4, pickV]
        apply hK; clear hK K
        refine L_false rfl ?_
        exact ⟨.inl rfl, _, rfl, hq⟩
theorem nbs_ac (r0 : Option Nat) (off n ver sz : Nat) (full r : Bool) (H : AH) (Q : AV → AH → Prop) (h : Q (.func (.func 109) [] [.ptr H.length 0 0, .ptr (H.length + 1) 0 0]) (H ++ [.row [.slice r0 off n ver sz full] 0 0 false] ++ [.row [.bool r] 0 0 false])) : AC Try.prog 101 [.slice r0 off n ver sz full, .bool r] H Q := by
  refine L_body 6 Try.func101 rfl rfl ?_
  refine L_reg [2, 3] (fun K hK => ?_)
  simp [AV.isU, acells]
  apply hK; clear hK K
  refine L_reg [4] (fun K hK => ?_)
  simp
  apply hK; clear hK K
  exact L_ret ⟨.inr rfl, _, rfl, by simpa using h⟩
theorem make_cap {P : Program} {t : TypeId} {z : AV} {H : AH} (h : elZ P t = some z) {n : Nat} (hn : n ≤ 16777216) : makeV P t H (.int .i64 0) (.int .i64 n) = some (some (.slice (some H.length) 0 0 0 1 false), H ++ [.row [] 0 0 false]) := by
  unfold elZ at h
  split at h
  case h_2 => cases h
  rename_i e he
  split at h
  case h_2 => cases h
  rename_i I hI
  split at h
  case isFalse => cases h
  rename_i hc
  simp only [makeV, he, hI, hc.1]
  rw [if_pos ⟨by omega, by omega, by omega, hc.2, by omega⟩]
  simp
/-- append to the list of a row. -/
theorem rw_append {P : Program} {t u : TypeId} (ht : elT P t = true) (hu : elT P u = true) {H : AH} {r ver m : Nat} {c : List Int} {x : Int} (hr : Rw r ver H c) (hlen : c.length < 16777216) :
    ∃ H', aAppend P (H ++ [.row [.int .i64 x] 0 m false]) t u (.slice (some r) 0 c.length ver 1 false) (.slice (some H.length) 0 1 0 1 false) = some (.slice (some r) 0 (c.length + 1) (ver + 1) 1 false, H') ∧ Rw r (ver + 1) H' (c ++ [x]) ∧ KeepX r H H' := by
  obtain ⟨e, I, h1, h2, h3, h4, -⟩ := elT_some ht
  obtain ⟨e', I', g1, -⟩ := elT_some hu
  obtain ⟨stale, hr⟩ := hr
  have hsrc : aSrc P (H ++ [.row [.int .i64 x] 0 m false]) u 1 (.slice (some H.length) 0 1 0 1 false) = some (1, [.int .i64 x]) := by
    simp_all [aSrc, ldn, takeKnown]
  unfold aAppend
  have hlt : r < H.length := (List.getElem?_eq_some_iff.1 hr).1
  have hr' : (H ++ [.row [.int .i64 x] 0 m false])[r]? = some (.row (c.map (.int .i64)) ver stale false) := by rw [List.getElem?_append_left hlt]; exact hr
  refine ⟨(H ++ [AObj.row [.int .i64 x] 0 m false]).set r (AObj.row ((c ++ [x]).map (.int .i64)) (ver + 1) (min stale c.length) false), ?_, ⟨min stale c.length, ?_⟩, ?_⟩
  · have : c.length + 1 ≤ 16777216 := hlen
    have hin : inPlace (H ++ [AObj.row [.int .i64 x] 0 m false]) r 0 c.length 1 ver 1 [.int .i64 x] = none := by simp [inPlace, hr']; omega
    have hone : (AV.int .i64 x).one = true := rfl
    simp [h1, h2, h3, h4, hsrc, hone, grow, hr', this, hin]
    rw [List.take_of_length_le (by simp)]
  · rw [List.getElem?_set]
    simp; omega
  · refine ⟨by simp, fun j hj hjl => ?_⟩
    rw [List.getElem?_set_ne (Ne.symm hj), List.getElem?_append_left hjl]
theorem set_ne {H : AH} {i j : Nat} {o : AObj} (h : i ≠ j) : (H.set i o)[j]? = H[j]? := List.getElem?_set_ne h
theorem Rw.set_ne {r ver j : Nat} {H : AH} {c : List Int} {o : AObj} (h : Rw r ver H c) (hj : j ≠ r) : Rw r ver (H.set j o) c := by
  obtain ⟨s, h⟩ := h
  exact ⟨s, by rw [Go.Proofs.Ytpfkioakjmpimaa.set_ne hj]; exact h⟩
theorem Rw.keep {r ver w : Nat} {H H' : AH} {c : List Int} (h : Rw r ver H c) (hk : KeepX w H H') (hr : r ≠ w) : Rw r ver H' c := by
  obtain ⟨s, h⟩ := h
  exact ⟨s, hk.row hr h⟩
theorem KeepX.extN {N r : Nat} {H0 A B : AH} (h : KeepX r A B) (hE : Ext H0 A) (hr : H0.length ≤ r) : Ext H0 B := h.new hE hr
set_option maxRecDepth 100000 in
theorem steps_ac (v : AV) (l : List Int) (r : Bool) (H : AH) (Q : AV → AH → Prop) (hlen : l.length ≤ 1000000) (hb : Bd 1000 l) (hv : Ls H v l)
    (h : ∀ v H', OwnF H.length H' v ((stepsS r l).map (.int .i64)) → Ext H H' → Q v H') : AC Try.prog 93 [v, .bool r] H Q := by
  obtain ⟨r0, off0, ver0, sz0, full0, hv0, -⟩ := id hv
  have hl := ls_len hv
  refine L_body 27 Try.func93 rfl rfl ?_
  refine L_reg [0, 1, 6, 7] (fun K hK => ?_)
  simp
  apply hK; clear hK K
  have hst : storeV Try.prog 22 (H ++ [AObj.row [] 0 0 false] ++ [AObj.row [AV.slice none 0 0 0 1 false] 0 0 false]) (.ptr (H ++ [AObj.row [] 0 0 false]).length 0 0) (.slice (some H.length) 0 0 0 1 false) = some (none, (H ++ [AObj.row [] 0 0 false]) ++ [.row [.slice (some H.length) 0 0 0 1 false] 0 0 false]) := store_last sc22 (y := .slice none 0 0 0 1 false) rfl rfl
  simp at hst
  obtain ⟨I, hI, hz⟩ := zeroT_some zt22
  refine L_reg [0, 1, 5, 6, 7] (fun K hK => ?_)
  simp [hl, make_cap elz22 (show l.length ≤ 16777216 by omega), hI, hz, hst]
  apply hK; clear hK K
  have z0 : (H ++ [AObj.row [] 0 0 false, AObj.row [AV.slice (some H.length) 0 0 0 1 false] 0 0 false]).length = H.length + 2 := by simp
  have z1 : Rw H.length 0 (H ++ [AObj.row [] 0 0 false, AObj.row [AV.slice (some H.length) 0 0 0 1 false] 0 0 false]) [] := ⟨0, by simp⟩
  have z2 : (H ++ [AObj.row [] 0 0 false, AObj.row [AV.slice (some H.length) 0 0 0 1 false] 0 0 false])[H.length + 1]? = some (.row [.slice (some H.length) 0 0 0 1 false] 0 0 false) := by simp
  have zE : Ext H (H ++ [AObj.row [] 0 0 false, AObj.row [AV.slice (some H.length) 0 0 0 1 false] 0 0 false]) := .push _ _
  generalize H ++ [AObj.row [] 0 0 false, AObj.row [AV.slice (some H.length) 0 0 0 1 false] 0 0 false] = Ha at z0 z1 z2 zE ⊢
  rw [hv0]
  refine L_reg [5, 6, 7, 13] (fun K hK => ?_)
  simp [okFn_low]
  refine nbs_ac r0 off0 l.length ver0 sz0 full0 r _ _ ?_
  simp
  apply hK; clear hK K
  rw [← hv0]
  have y1 : (Ha ++ [AObj.row [v] 0 0 false, AObj.row [AV.bool r] 0 0 false])[H.length + 2]? = some (.row [v] 0 0 false) := by rw [← z0]; simp
  have y2 : (Ha ++ [AObj.row [v] 0 0 false, AObj.row [AV.bool r] 0 0 false])[H.length + 3]? = some (.row [.bool r] 0 0 false) := by rw [show H.length + 3 = Ha.length + 1 by omega]; simp
  have yE : Ext Ha (Ha ++ [AObj.row [v] 0 0 false, AObj.row [AV.bool r] 0 0 false]) := .push _ _
  have yl : (Ha ++ [AObj.row [v] 0 0 false, AObj.row [AV.bool r] 0 0 false]).length = H.length + 4 := by simp [z0]
  have z1 := z1.ext yE
  have z2 := yE.row z2
  have zE := zE.trans yE
  generalize Ha ++ [AObj.row [v] 0 0 false, AObj.row [AV.bool r] 0 0 false] = H1 at y1 y2 yE yl z1 z2 zE ⊢
  rw [z0]
  refine L_block (L_range [5] rfl (okFn_low (by omega) (by omega)) ?_)
  generalize hL : (⟨27, _, _, _, _⟩ : LR) = L
  have hnt : L.nt = 27 := by rw [← hL]
  have hps : L.ps = #[14, 15] := by rw [← hL]
  have hass := congrArg LR.assign hL.symm
  have he : L.e = [(5, .ptr (H.length + 1) 0 0)] := by rw [← hL]; rfl
  have hbody := congrArg LR.body hL.symm
  clear hL
  rw [yl]
  generalize hp : H.length = p at *
  refine nb1_ac (p + 4) (p + 2) (p + 3) v l r (fun k H' => p + 5 ≤ H'.length ∧ H'[p + 2]? = some (.row [v] 0 0 false) ∧ H'[p + 3]? = some (.row [.bool r] 0 0 false) ∧ H'[p + 4]? = some (.loop .ready .normal L) ∧ Ext H H' ∧
      ∃ ver s, Rw p ver H' ((stepsS r l).take k) ∧ H'[p + 1]? = some (.row [.slice (some p) 0 ((stepsS r l).take k).length ver 1 false] 0 s false)) (fun _ => False) _ _ hlen ?_ ?_ ?_ ?_ ?_
  · rintro k H2 ⟨g0, g1, g2, g3, gE, -⟩
    exact ⟨⟨_, g1⟩, ⟨_, g2⟩, hv.ext gE⟩
  · rintro k a b H2 hk ⟨g0, g1, g2, g3, gE, ver, s, g4, g5⟩
    refine AYld_mkA g3 (by rw [hps]; rfl) (by rw [hps, hnt]; simp) ?_
    rw [hnt, hps, he, hass]
    refine L_reg [5, 6, 15] (fun K hK => ?_)
    simp [psEnv]
    apply hK; clear hK K
    refine L_reg [5, 6, 7] (fun K hK => ?_)
    simp
    apply hK; clear hK K
    refine ⟨rfl, .normal, L, g3, ?_⟩
    rw [hbody]
    have hkx : (stepsS r l)[k]? = some (df a b) := by rw [prs_steps, List.getElem?_map, hk]; rfl
    have hkl : k < (stepsS r l).length := (List.getElem?_eq_some_iff.1 hkx).1
    have hkt : (stepsS r l).take (k + 1) = (stepsS r l).take k ++ [df a b] := by rw [List.take_add_one, hkx]; rfl
    have hlk : ((stepsS r l).take k).length = k := by simp; omega
    have hsl := stepsS_len r l
    have hab : Bd 1000 [a, b] := by
      have : (a, b) ∈ prs r l := List.mem_of_getElem? hk
      unfold prs at this
      rcases List.mem_append.1 this with this | this
      · obtain ⟨i, hi, e⟩ := List.mem_map.1 this
        rw [List.mem_range] at hi
        cases e
        have b1 := sh_g hb (i := i) (by omega)
        have b2 := sh_g hb (i := i + 1) (by omega)
        intro x hx; simp at hx; rcases hx with rfl | rfl <;> assumption
      · split at this
        · rename_i hc
          simp at this
          obtain ⟨rfl, rfl⟩ := this
          have b1 := sh_g hb (i := l.length - 1) (by omega)
          have b2 := sh_g hb (i := 0) (by omega)
          intro x hx; simp at hx; rcases hx with rfl | rfl <;> assumption
        · simp at this
    have b1 := hab a (by simp)
    have b2 := hab b (by simp)
    rw [hlk] at g5
    generalize hH2b : H2.set (p + 4) (.loop .busy .normal L) = H2b
    have bl : H2b.length = H2.length := by rw [← hH2b]; simp
    have b5 : H2b[p + 1]? = some (.row [.slice (some p) 0 k ver 1 false] 0 s false) := by rw [← hH2b, set_ne (by omega)]; exact g5
    have b4 : Rw p ver H2b ((stepsS r l).take k) := by rw [← hH2b]; exact g4.set_ne (by omega)
    have bL : H2b[p + 4]? = some (.loop .busy .normal L) := by rw [← hH2b, List.getElem?_set_self (by omega)]
    have c1 : H2b[p + 2]? = some (.row [v] 0 0 false) := by rw [← hH2b, set_ne (by omega)]; exact g1
    have c2 : H2b[p + 3]? = some (.row [.bool r] 0 0 false) := by rw [← hH2b, set_ne (by omega)]; exact g2
    have bE : Ext H H2b := by rw [← hH2b]; exact gE.set _ (by omega)
    have e5 : ld H2b (p + 1) 0 0 = some (.slice (some p) 0 k ver 1 false) := by rw [ld_row b5]; rfl
    obtain ⟨H3, happ, d4, dK⟩ := rw_append el22 el22 (x := df a b) (m := 1) b4 (by omega)
    rw [hlk] at happ
    have d5 := dK.row (by omega) b5
    have hst := store_row (P := Try.prog) (u := 22) (p := 0) sc22 (x := .slice (some p) 0 (k + 1) (ver + 1) 1 false) (y := .slice (some p) 0 k ver 1 false) rfl d5 rfl
    have e6 : max a b - min a b = df a b := rfl
    refine L_block ?_
    refine L_reg [] (fun K hK => ?_)
    simp [e5, e6, wrap_i64 (a := df a b) (by unfold df; omega), happ, hst]
    apply hK; clear hK K
    refine ⟨.busy, .normal, L, by rw [set_ne (by omega)]; exact dK.row (by omega) bL, true, rfl, ?_⟩
    simp only [if_true]
    have hlen3 := dK.1
    refine ⟨by simp; omega, ?_, ?_, ?_, ?_, ver + 1, 0, ?_, ?_⟩
    · rw [set_ne (by omega), set_ne (by omega)]; exact dK.row (by omega) c1
    · rw [set_ne (by omega), set_ne (by omega)]; exact dK.row (by omega) c2
    · rw [List.getElem?_set_self (by simp; omega)]
    · exact ((dK.new bE (by omega)).set _ (by omega)).set _ (by omega)
    · rw [hkt]; exact (d4.set_ne (by omega)).set_ne (by omega)
    · rw [set_ne (by omega), get_set d5, hkt]
      simp [hlk]
  · have hin : ∀ j, j < H1.length → (H1 ++ [AObj.loop .ready .normal L])[j]? = H1[j]? := fun j hj => List.getElem?_append_left hj
    refine ⟨by simp; omega, ?_, ?_, by rw [← yl]; simp, zE.trans (.push _ _), 0, 0, z1.ext (.push _ _), ?_⟩
    · rw [hin _ (by omega)]; exact y1
    · rw [hin _ (by omega)]; exact y2
    · rw [hin _ (by omega)]; exact z2
  · rintro H2 ⟨g0, g1, g2, g3, gE, ver, s, g4, g5⟩
    refine ⟨.ready, .normal, L, g3, by simp, ?_⟩
    have hpl : (prs r l).length = (stepsS r l).length := by rw [prs_steps]; simp
    rw [hpl, List.take_length] at g4 g5
    have b5 : (H2.set (p + 4) (.loop .exhausted .normal L))[p + 1]? = some (.row [.slice (some p) 0 (stepsS r l).length ver 1 false] 0 s false) := by rw [set_ne (by omega)]; exact g5
    have e5 : ld (H2.set (p + 4) (.loop .exhausted .normal L)) (p + 1) 0 0 = some (.slice (some p) 0 (stepsS r l).length ver 1 false) := by rw [ld_row b5]; rfl
    show AWL _ _ _ _ _ _
    refine L_reg [4] (fun K hK => ?_)
    simp [e5]
    apply hK; clear hK K
    exact L_ret ⟨.inr rfl, _, rfl, h _ _ ((g4.set_ne (by omega)).ownF (Nat.le_refl _)) (gE.set _ (by omega))⟩
  · intro H' h; exact h.elim
theorem greatest_q (v : AV) (l : List Int) (r : Bool) (H : AH) (Q : AV → AH → Prop) (hlen : l.length ≤ 1000000) (hb : Bd 1000 l) (hv : Ls H v l) (h : Q (.int .i64 (stepC r l)) H) : AC Try.prog 59 [v, .bool r] H Q := by
  refine AC.quiet (belB_int _ _ _ _) (fun Q h => ?_) Q h
  refine L_body 9 Try.func59 rfl rfl ?_
  refine L_reg [0, 1] (fun K hK => ?_)
  simp
  apply hK; clear hK K
  have hsl := stepsS_len r l
  refine L_reg [4] (fun K hK => ?_)
  simp [okFn_low]
  refine steps_ac v l r _ _ hlen hb hv (fun w H1 hO hE => ?_)
  simp [okFn_low]
  refine greatest_ac w _ _ _ (by omega) hO.own.ls ?_
  simp
  apply hK; clear hK K
  exact L_ret ⟨.inr rfl, _, rfl, h H1 hE⟩
theorem sum_q (v : AV) (l : List Int) (r : Bool) (H : AH) (Q : AV → AH → Prop) (hlen : l.length ≤ 1000000) (hb : Bd 1000 l) (hv : Ls H v l) (h : Q (.int .i64 (sumC r l)) H) : AC Try.prog 61 [v, .bool r] H Q := by
  refine AC.quiet (belB_int _ _ _ _) (fun Q h => ?_) Q h
  refine L_body 9 Try.func61 rfl rfl ?_
  refine L_reg [0, 1] (fun K hK => ?_)
  simp
  apply hK; clear hK K
  have hsl := stepsS_len r l
  have hbd := df_bd hb (r := r)
  refine L_reg [4] (fun K hK => ?_)
  simp [okFn_low]
  refine steps_ac v l r _ _ hlen hb hv (fun w H1 hO hE => ?_)
  simp [okFn_low]
  refine total_ac w _ _ _ (by omega) (fun x hx => by have := hbd x hx; omega) hO.own.ls ?_
  simp
  apply hK; clear hK K
  exact L_ret ⟨.inr rfl, _, rfl, h H1 hE⟩
end Go.Proofs.Ytpfkioakjmpimaa

/- slices.Sorted(slices.Values(l)). -/
namespace Go.Proofs.Ytpfkioakjmpimaa
open Go Go.Proofs.Ytpfkioakjmpimaa.AX
/-- All of a list is yielded. -/
theorem vals_ac (r pb : Nat) (l : List Int) (v : AV) (J : Nat → AH → Prop) (H : AH) (Q : AV → AH → Prop) (hlen : l.length ≤ 1000000) (hpb : ld H pb 0 0 = some v) (hJ : ∀ i H', J i H' → Ls H' v l)
    (hs : ∀ i (hi : i < l.length) H', J i H' → AYld Try.prog r [.int .i64 l[i]] H' fun u H2 => u = .bool true ∧ J (i + 1) H2) (h0 : J 0 H) (h : ∀ H', J l.length H' → Q (.tuple []) H') : AC Try.prog 88 [.yld r, .ptr pb 0 0] H Q := by
  obtain ⟨r2, off, ver, sz, full, rfl, -⟩ := hJ _ _ h0
  refine L_body 16 Try.func88 rfl rfl ?_
  refine L_reg [0, 5, 6, 7] (fun K hK => ?_)
  simp [hpb]
  apply hK; clear hK K
  refine L_block (L_loopV [7] (fun k vs H' => ∃ i : Nat, k = l.length - i ∧ i ≤ l.length ∧ vs = [.int .i64 i] ∧ J i H') _ [.int .i64 0] rfl ⟨0, rfl, by omega, rfl, h0⟩ ?_)
  rintro k _ H1 ⟨i, rfl, hi, rfl, hk1⟩
  refine L_reg [0, 5, 6, 7, 8] (fun K hK => ?_)
  simp
  apply hK; clear hK K
  refine L_dec (i < l.length) (by simp) (fun hlt => ?_) (fun hge => L_exit ?_)
  · refine L_block ?_
    obtain ⟨r2', off', ver', sz', full', he, hld⟩ := hJ _ _ hk1
    cases he
    obtain ⟨r3, rfl, rfl, hrd⟩ := hld i hlt
    refine L_reg [0, 4, 5, 6, 7] (fun K hK => ?_)
    simp [hrd, hlt]
    apply hK; clear hK K
    refine L_reg [0, 5, 6, 7, 14] (fun K hK => ?_)
    simp
    refine (hs i hlt H1 hk1).mono ?_
    rintro u H2 ⟨rfl, hJ2⟩
    simp
    apply hK; clear hK K
    refine L_false rfl ?_
    refine L_reg [0, 5, 6, 7] (fun K hK => ?_)
    simp [wrap_i64 (a := (i : Int) + 1) (by omega)]
    apply hK; clear hK K
    exact ⟨l.length - (i + 1), [.int .i64 (i + 1 : Nat)], by omega, by simp, i + 1, rfl, by omega, rfl, hJ2⟩
  · have : i = l.length := by omega
    subst this
    exact ⟨.inl rfl, _, rfl, h _ hk1⟩
theorem values_ac (v : AV) (hv : v.one = true) (H : AH) (Q : AV → AH → Prop) (h : Q (.func (.func 88) [] [.ptr H.length 0 0]) (H ++ [.row [v] 0 0 false])) : AC Try.prog 47 [v] H Q := by
  refine L_body 4 Try.func47 rfl rfl ?_
  have h1 : v.isU = false := by cases v <;> first | rfl | (simp [AV.one] at hv)
  have h2 : acells v = [v] := by cases v <;> first | rfl | (simp [AV.one] at hv)
  refine L_reg [1] (fun K hK => ?_)
  simp [h1, h2]
  apply hK; clear hK K
  refine L_reg [2] (fun K hK => ?_)
  simp
  apply hK; clear hK K
  exact L_ret ⟨.inr rfl, _, rfl, h⟩
theorem OwnF.offs {N p : Nat} {H : AH} {v : AV} {l : List AV} (h : OwnF N H v l) (hp : p < N) (o : AObj) : OwnF N (H.set p o) v l := by
  rcases h with h | ⟨r, ver, st, g1, g2, g3⟩
  · exact .inl h
  · exact .inr ⟨r, ver, st, g1, g2, by rw [set_ne (by omega)]; exact g3⟩
theorem ext_take (H : AH) (N : Nat) (h : N ≤ H.length) : Ext (H.take N) H := ⟨by simp; omega, fun j hj => by simp at hj; rw [List.getElem?_take_of_lt (by omega)]⟩
set_option maxRecDepth 100000 in
/-- The values of a list, appended to nothing. -/
theorem AppendSeq_ac (l : List Int) (v : AV) (pb : Nat) (H : AH) (Q : AV → AH → Prop) (hlen : l.length ≤ 1000) (hpb : H[pb]? = some (.row [v] 0 0 false)) (hv : Ls H v l)
    (h : ∀ u H', OwnF H.length H' u (l.map (.int .i64)) → Ext H H' → Q u H') : AC Try.prog 105 [.slice none 0 0 0 1 false, .func (.func 88) [] [.ptr pb 0 0]] H Q := by
  refine L_body 13 Try.func105 rfl rfl ?_
  refine L_reg [1, 2, 5] (fun K hK => ?_)
  simp [AV.isU, acells]
  apply hK; clear hK K
  have hE := Ext.push H [AObj.row [.slice none 0 0 0 1 false] 0 0 false]
  have r1 : (H ++ [AObj.row [.slice none 0 0 0 1 false] 0 0 false])[H.length]? = some (.row [.slice none 0 0 0 1 false] 0 0 false) := by simp
  have hlt1 : (H ++ [AObj.row [.slice none 0 0 0 1 false] 0 0 false]).length = H.length + 1 := by simp
  generalize H ++ [AObj.row [.slice none 0 0 0 1 false] 0 0 false] = H3 at hE r1 hlt1 ⊢
  generalize hp : H.length = p at *
  refine L_reg [2, 5, 6] (fun K hK => ?_)
  simp
  apply hK; clear hK K
  refine L_block (L_range [2, 5] rfl (okFn_low (by omega) (by omega)) ?_)
  generalize hL : (⟨13, _, _, _, _⟩ : LR) = L
  have hnt : L.nt = 13 := by rw [← hL]
  have hps : L.ps = #[7] := by rw [← hL]
  have hass := congrArg LR.assign hL.symm
  have he : L.e = [(2, .ptr p 0 0)] := by rw [← hL]; rfl
  have hbody := congrArg LR.body hL.symm
  clear hL
  have hr0 : (H3 ++ [AObj.loop .ready .normal L])[H3.length]? = some (.loop .ready .normal L) := by simp
  have hin : ∀ j, j < H3.length → (H3 ++ [AObj.loop .ready .normal L])[j]? = H3[j]? := fun j hj => List.getElem?_append_left hj
  have hpb3 := hE.row hpb
  have hpbl : pb < p := by rw [← hp]; exact (List.getElem?_eq_some_iff.1 hpb).1
  have hvL : ∀ H' : AH, H3.length < H'.length → (∀ j, j < H3.length → j ≠ p → H'[j]? = H3[j]?) → Ext H H' := fun H' h1 h2 => ⟨by omega, fun j hj => by rw [h2 j (by omega) (by omega), hE.2 j (by omega)]⟩
  have hkv : known [v][0]? = some v := by obtain ⟨r2, off, ver, sz, full, rfl, -⟩ := hv; rfl
  refine vals_ac H3.length pb l v (fun i H' => i ≤ l.length ∧ H3.length < H'.length ∧ (∃ u, H'[p]? = some (.row [u] 0 0 false) ∧ OwnF (H3.length + 1) H' u ((l.take i).map (.int .i64))) ∧
      (∀ j, j < H3.length → j ≠ p → H'[j]? = H3[j]?) ∧ H'[H3.length]? = some (.loop .ready .normal L)) _ _ (by omega) (by rw [ld_row ((hin pb (by omega)).trans hpb3)]; exact hkv) ?_ ?_ ?_ ?_
  · rintro i H' ⟨g1, g2, g3, g4, g5⟩
    exact hv.ext (hvL H' g2 g4)
  · rintro i hi H' ⟨g1, g2, ⟨u, g3, g3'⟩, g4, g5⟩
    refine AYld_mkA g5 (by rw [hps]; rfl) (by rw [hps, hnt]; simp) ?_
    rw [hnt, hps, he, hass]
    refine L_reg [2, 5] (fun K hK => ?_)
    simp [psEnv]
    apply hK; clear hK K
    refine ⟨rfl, .normal, L, g5, ?_⟩
    rw [hbody]
    generalize hHb : H'.set H3.length (.loop .busy .normal L) = Hb
    have hOff : ∀ j, j ≠ H3.length → Hb[j]? = H'[j]? := fun j hj => by rw [← hHb, set_ne (Ne.symm hj)]
    have hlb : Hb.length = H'.length := by rw [← hHb]; simp
    have c0 : Hb[p]? = _ := (hOff _ (by omega)).trans g3
    have br : Hb[H3.length]? = some (.loop .busy .normal L) := by rw [← hHb, List.getElem?_set_self (by omega)]
    have hO0 : OwnF (Hb.take (H3.length + 1)).length Hb u ((l.take i).map (.int .i64)) := by
      rw [List.length_take, Nat.min_eq_left (by omega)]
      rcases g3' with g | ⟨r, ver, st, k1, k2, k3⟩
      · exact .inl g
      · exact .inr ⟨r, ver, st, k1, k2, by rw [hOff _ (by omega)]; exact k3⟩
    obtain ⟨u', H4, happ, hO4, hE4⟩ := ownF_append (ext_take Hb (H3.length + 1) (by omega)) el22 el22 (x := .int .i64 l[i]) (m := 1) hO0 rfl (by simp; omega)
    have hlt4 : (Hb.take (H3.length + 1)).length = H3.length + 1 := by rw [List.length_take, Nat.min_eq_left (by omega)]
    rw [hlt4] at hO4
    have hk4 : ∀ j, j < H3.length + 1 → H4[j]? = Hb[j]? := fun j hj => by rw [hE4.2 j (by omega), List.getElem?_take_of_lt hj]
    have hl4 : H3.length + 1 ≤ H4.length := by have := hE4.1; omega
    have c4 := (hk4 p (by omega)).trans c0
    obtain ⟨ru, verU, hu⟩ := hO4.len
    obtain ⟨ru0, verU0, hu0⟩ := hO0.len
    have hst := store_row (P := Try.prog) (u := 22) (p := 0) sc22 (x := u') (y := u) (by rw [hu]; rfl) c4 (by rw [hu0]; rfl)
    have e1 : ld Hb p 0 0 = some u := by rw [ld_row c0, hu0]; rfl
    refine L_block ?_
    refine L_reg [] (fun K hK => ?_)
    simp [e1, happ, hst]
    apply hK; clear hK K
    refine ⟨.busy, .normal, L, by rw [set_ne (by omega), hk4 _ (by omega)]; exact br, rfl, by omega, by simp; omega, ⟨u', ?_, ?_⟩, fun j hj1 hj2 => ?_, ?_⟩
    · rw [set_ne (by omega), get_set c4]
    · rw [show l.take (i + 1) = l.take i ++ [l[i]] by rw [List.take_append_getElem]]
      rw [List.map_append]
      exact OwnF.offs (OwnF.offs hO4 (by omega) _) (by omega) _
    · rw [set_ne (by omega), set_ne (by omega), hk4 j (by omega), hOff _ (by omega), g4 _ hj1 hj2]
    · simp only [if_true]
      rw [List.getElem?_set_self (by simp; omega)]
  · refine ⟨by omega, by simp, ⟨_, (hin _ (by omega)).trans r1, .nil _ _⟩, fun j h1 _ => hin j h1, hr0⟩
  · rintro H' ⟨g1, g2, ⟨u, g3, g3'⟩, g4, g5⟩
    refine ⟨.ready, .normal, L, g5, by simp, ?_⟩
    show AWL _ _ _ _ _ _
    obtain ⟨ru, verU, hu⟩ := g3'.len
    have k0 : (H'.set H3.length (.loop .exhausted .normal L))[p]? = _ := (set_ne (by omega)).trans g3
    have e1 : ld (H'.set H3.length (.loop .exhausted .normal L)) p 0 0 = some u := by rw [ld_row k0, hu]; rfl
    refine L_reg [4] (fun K hK => ?_)
    simp [e1]
    apply hK; clear hK K
    rw [List.take_length] at g3'
    exact L_ret ⟨.inr rfl, _, rfl, h u _ ((OwnF.offs g3' (by omega) _).mono (by omega)) ((hvL H' g2 g4).set _ (by omega))⟩
theorem Collect_ac (l : List Int) (v : AV) (pb : Nat) (H : AH) (Q : AV → AH → Prop) (hlen : l.length ≤ 1000) (hpb : H[pb]? = some (.row [v] 0 0 false)) (hv : Ls H v l)
    (h : ∀ u H', OwnF H.length H' u (l.map (.int .i64)) → Ext H H' → Q u H') : AC Try.prog 86 [.func (.func 88) [] [.ptr pb 0 0]] H Q := by
  refine L_body 5 Try.func86 rfl rfl ?_
  refine L_reg [0] (fun K hK => ?_)
  simp
  apply hK; clear hK K
  refine L_reg [2] (fun K hK => ?_)
  simp [okFn_low]
  refine AppendSeq_ac l v pb H _ hlen hpb hv (fun u H' h1 h2 => ?_)
  simp
  apply hK; clear hK K
  exact L_ret ⟨.inr rfl, _, rfl, h u H' h1 h2⟩
/-- A list of at most 127 numbers, sorted. -/
theorem Sorted_ac (l : List Int) (v : AV) (pb : Nat) (H : AH) (Q : AV → AH → Prop) (h1 : 1 ≤ l.length) (hlen : l.length ≤ 127) (hpb : H[pb]? = some (.row [v] 0 0 false)) (hv : Ls H v l)
    (h : ∀ u H' (m : List Int), m.Perm l → m.Pairwise (· ≤ ·) → OwnF H.length H' u (m.map (.int .i64)) → Ext H H' → Q u H') : AC Try.prog 46 [.func (.func 88) [] [.ptr pb 0 0]] H Q := by
  refine L_body 9 Try.func46 rfl rfl ?_
  refine L_reg [0] (fun K hK => ?_)
  simp
  apply hK; clear hK K
  refine L_reg [3] (fun K hK => ?_)
  simp [okFn_low]
  refine Collect_ac l v pb H _ (by omega) hpb hv (fun u H1 hO hE => ?_)
  simp
  apply hK; clear hK K
  rcases hO with ⟨g1, -⟩ | ⟨r, ver, st, g1, rfl, g3⟩
  · have : l = [] := by simpa using g1
    subst this; simp at h1
  rw [List.length_map]
  refine L_reg [3] (fun K hK => ?_)
  simp [okFn_low]
  refine Sort_ac (sb := false) (tl := []) r ver l l.length rfl H1 _ ⟨st, by simpa using g3⟩ (List.getElem?_eq_some_iff.1 g3).1 hlen (fun H2 m hp hs hr hK2 => ?_)
  simp
  apply hK; clear hK K
  refine L_reg [2] (fun K hK => ?_)
  simp
  apply hK; clear hK K
  obtain ⟨st2, hr⟩ := hr
  rw [List.append_nil] at hr
  have hml := hp.length_eq
  have hsort : m.Pairwise (· ≤ ·) := List.pairwise_iff_getElem.2 fun i j hi hj hij => by
    have := hs i j (by omega) hij (by omega)
    rw [g_lt hi, g_lt hj] at this
    exact this
  exact L_ret ⟨.inr rfl, _, rfl, h _ H2 m hp hsort (.inr ⟨r, ver, st2, g1, by rw [List.length_map, hml]; rfl, hr⟩) ⟨Nat.le_trans hE.1 hK2.1, fun j hj => by rw [hK2.2 j (by omega) (by have := hE.1; omega), hE.2 j hj]⟩⟩
end Go.Proofs.Ytpfkioakjmpimaa

/- The next arrangement, and the cheapest one. -/
namespace Go.Proofs.Ytpfkioakjmpimaa
open Go Go.Proofs.Ytpfkioakjmpimaa.AX

/-! ### The next arrangement, by places -/
theorem g_cons (a : Int) (l : List Int) (i : Nat) : g (a :: l) i = if i = 0 then a else g l (i - 1) := by
  cases i <;> rfl
theorem falls_far {c : List Int} {k : Nat} (h : ∀ j, k ≤ j → j + 1 < c.length → g c (j + 1) ≤ g c j) (p : Nat) (hp : k ≤ p) : ∀ d, p + d < c.length → g c (p + d) ≤ g c p
  | 0, _ => Int.le_refl _
  | d + 1, hd => by
    have h1 := falls_far h p hp d (by omega)
    have h2 := h (p + d) (by omega) (by omega)
    rw [show p + (d + 1) = p + d + 1 by omega]; omega
theorem falls_drop {c : List Int} {k : Nat} (h : ∀ j, k ≤ j → j + 1 < c.length → g c (j + 1) ≤ g c j) : (c.drop k).Pairwise (· ≥ ·) := by
  rw [List.pairwise_iff_getElem]
  intro i j hi hj hij
  rw [← g_lt hi, ← g_lt hj, g_drop, g_drop]
  simp at hi hj
  have := falls_far h (k + i) (by omega) (j - i) (by omega)
  rw [show k + i + (j - i) = k + j by omega] at this
  exact this
theorem split_at {c : List Int} {i w : Nat} (hiw : i < w) (hw : w < c.length) : c = c.take i ++ g c i :: ((c.drop (i + 1)).take (w - (i + 1)) ++ g c w :: c.drop (w + 1)) := by
  refine g_ext (by simp; omega) fun x hx => ?_
  have l1 : (c.take i).length = i := by simp; omega
  have l2 : ((c.drop (i + 1)).take (w - (i + 1))).length = w - (i + 1) := by simp; omega
  rw [g_app, l1, g_cons, g_app, l2, g_cons, g_drop]
  by_cases h1 : x < i
  · rw [if_pos h1, g_take h1]
  · rw [if_neg h1]
    by_cases h2 : x - i = 0
    · rw [if_pos h2]; congr 1; omega
    · rw [if_neg h2]
      by_cases h3 : x - i - 1 < w - (i + 1)
      · rw [if_pos h3, g_take h3, g_drop]; congr 1; omega
      · rw [if_neg h3]
        split
        · congr 1; omega
        · congr 1; omega
/-- Exchanged, and turned round behind. -/
theorem next_at {c d : List Int} {i w : Nat} (hiw : i < w) (hw : w < c.length) (hlt : g c i < g c w) (hf : ∀ j, i + 1 ≤ j → j + 1 < c.length → g c (j + 1) ≤ g c j) (hv : ∀ j, w < j → j < c.length → g c j ≤ g c i)
    (hdl : d.length = c.length) (hd : ∀ x, x < c.length → g d x = if x < i then g c x else if x = i then g c w else if c.length + i - x = w then g c i else g c (c.length + i - x)) :
    d.Perm c ∧ Arr.lx c d ∧ ∀ p, p.Perm c → Arr.lx c p → Arr.le d p := by
  have e := split_at hiw hw
  have hdr : c.drop (i + 1) = (c.drop (i + 1)).take (w - (i + 1)) ++ g c w :: c.drop (w + 1) := by
    have h1 : c.drop (i + 1) = (c.drop (i + 1)).take (w - (i + 1)) ++ (c.drop (i + 1)).drop (w - (i + 1)) := (List.take_append_drop _ _).symm
    rw [List.drop_drop, show i + 1 + (w - (i + 1)) = w by omega, List.drop_eq_getElem_cons hw, ← g_lt hw] at h1
    exact h1
  have hF := falls_drop hf
  rw [hdr] at hF
  have hV : ∀ y ∈ c.drop (w + 1), y ≤ g c i := fun y hy => by
    obtain ⟨j, hj, rfl⟩ := memg hy
    simp at hj
    rw [g_drop]; exact hv _ (by omega) (by omega)
  have l1 : (c.take i).length = i := by simp; omega
  have l2 : ((c.drop (i + 1)).take (w - (i + 1))).length = w - (i + 1) := by simp; omega
  have ed : d = c.take i ++ g c w :: ((c.drop (i + 1)).take (w - (i + 1)) ++ g c i :: c.drop (w + 1)).reverse := by
    have hR : ((c.drop (i + 1)).take (w - (i + 1)) ++ g c i :: c.drop (w + 1)).length = c.length - (i + 1) := by simp; omega
    refine g_ext (by rw [hdl, List.length_append, List.length_cons, List.length_reverse, hR, l1]; omega) fun x hx => ?_
    rw [hdl] at hx
    rw [hd x hx, g_app, l1, g_cons]
    by_cases h1 : x < i
    · rw [if_pos h1, if_pos h1, g_take h1]
    · rw [if_neg h1, if_neg h1]
      by_cases h2 : x = i
      · rw [if_pos h2, if_pos (by omega)]
      · rw [if_neg h2, if_neg (show ¬ x - i = 0 by omega), g_rev (by omega), hR, g_app, l2, g_cons]
        by_cases h3 : c.length + i - x = w
        · rw [if_pos h3, if_neg (by omega), if_pos (by omega)]
        · rw [if_neg h3]
          by_cases h4 : c.length + i - x < w
          · rw [if_pos (by omega), g_take (by omega), g_drop]; congr 1; omega
          · rw [if_neg (by omega), if_neg (by omega), g_drop]; congr 1; omega
  rw [ed]
  generalize c.take i = pre at *
  generalize (c.drop (i + 1)).take (w - (i + 1)) = u at *
  generalize c.drop (w + 1) = v at *
  generalize g c i = a at *
  generalize g c w = z at *
  rw [e]
  exact ⟨Arr.next_is, Arr.next_gt hlt, fun p hp hl => Arr.next_perm hF hlt hV hp hl⟩
theorem falls_all {c : List Int} (h : ∀ j, j + 1 < c.length → g c (j + 1) ≤ g c j) : c.Pairwise (· ≥ ·) := by
  have := falls_drop (c := c) (k := 0) fun j _ hj => h j hj
  rwa [List.drop_zero] at this
def NextOf (c d : List Int) : Prop := d.Perm c ∧ Arr.lx c d ∧ ∀ p, p.Perm c → Arr.lx c p → Arr.le d p
set_option maxRecDepth 100000 in
theorem advance_ac (r ver n : Nat) (c : List Int) (hn : c.length = n) (h1 : 1 ≤ n) (hlen : n ≤ 1000000) (H : AH) (Q : AV → AH → Prop) (hr : Rw r ver H c)
    (ht : ∀ H' d, NextOf c d → Rw r ver H' d → KeepX r H H' → Q (.bool true) H') (hf : c.Pairwise (· ≥ ·) → Q (.bool false) H) : AC Try.prog 99 [.slice (some r) 0 n ver 1 false] H Q := by
  subst hn
  refine L_body 59 Try.func99 rfl rfl ?_
  refine L_reg [0] (fun K hK => ?_)
  simp
  apply hK; clear hK K
  refine L_reg [0, 3] (fun K hK => ?_)
  simp [wrap_i64 (a := (c.length : Int) - 2) (by omega)]
  apply hK; clear hK K
  refine L_block (L_loopV [3] (fun m vs H' => ∃ k : Nat, m = k ∧ k + 1 ≤ c.length ∧ (∀ j, k ≤ j → j + 1 < c.length → g c (j + 1) ≤ g c j) ∧ vs = [.int .i64 ((k : Int) - 1)] ∧ H = H') _ [.int .i64 ((c.length : Int) - 2)] rfl ⟨c.length - 1, rfl, by omega, fun j h1 h2 => by omega, by rw [show ((c.length - 1 : Nat) : Int) - 1 = (c.length : Int) - 2 by omega], rfl⟩ ?_)
  rintro k _ _ ⟨_, rfl, hk, hfal, rfl, rfl⟩
  by_cases hk0 : k = 0
  · subst hk0
    have e0 : decide ((0 : Int) ≤ ((0 : Nat) : Int) - 1) = false := by decide
    refine L_regT mixed [0, 3, 21] (by kernel_rfl) (fun K hK => ?_)
    simp [pickV]
    apply hK; clear hK K
    refine L_false rfl ?_
    refine L_exit ?_
    refine L_reg [0, 3, 25] (fun K hK => ?_)
    simp
    apply hK; clear hK K
    refine L_true (by simp) ?_
    refine L_reg [2] (fun K hK => ?_)
    simp
    apply hK; clear hK K
    exact L_ret ⟨.inr rfl, _, rfl, hf (falls_all fun j hj => hfal j (by omega) hj)⟩
  obtain ⟨i, rfl⟩ : ∃ i, k = i + 1 := ⟨k - 1, by omega⟩
  have ei : ((i + 1 : Nat) : Int) - 1 = (i : Int) := by omega
  rw [ei]
  have hx := hr.ld (i := i) (by omega)
  have hy := hr.ld (i := i + 1) (by omega)
  have e1 : (i : Int) + 1 = ((i + 1 : Nat) : Int) := by omega
  have hi1 : i < c.length := by omega
  have hi2 : (i : Int) + 1 < (c.length : Int) := by omega
  have hi3 : ((i : Int) + 1).toNat = i + 1 := by omega
  have hi0 : (0 : Int) ≤ (i : Int) + 1 := by omega
  refine L_regT mixed [0, 3, 21] (by kernel_rfl) (fun K hK => ?_)
  simp [pickV, hi1, hi2, hi3, hi0, hx, hy, wrap_i64 (a := (i : Int) + 1) (by omega)]
  apply hK; clear hK K
  refine L_dec (g c (i + 1) ≤ g c i) rfl (fun hle => ?_) (fun hgt => L_exit ?_)
  · refine L_block ?_
    refine L_reg [0, 3] (fun K hK => ?_)
    simp [wrap_i64 (a := (i : Int) - 1) (by omega)]
    apply hK; clear hK K
    refine ⟨i, [.int .i64 ((i : Int) - 1)], by omega, by simp, i, rfl, by omega, fun j h2 h3 => ?_, rfl, rfl⟩
    rcases Nat.lt_or_eq_of_le h2 with e | rfl
    · exact hfal j (by omega) h3
    · exact hle
  · refine L_reg [0, 3, 25] (fun K hK => ?_)
    simp
    apply hK; clear hK K
    refine L_false (by simp) ?_
    refine L_reg [0, 3, 4] (fun K hK => ?_)
    simp [wrap_i64 (a := (c.length : Int) - 1) (by omega)]
    apply hK; clear hK K
    refine L_block (L_loopV [4] (fun m vs H' => ∃ w : Nat, m = w ∧ i < w ∧ w < c.length ∧ (∀ j, w < j → j < c.length → g c j ≤ g c i) ∧ vs = [.int .i64 (w : Int)] ∧ H = H') _ [.int .i64 ((c.length : Int) - 1)] rfl ⟨c.length - 1, rfl, by omega, by omega, fun j h1 h2 => by omega, by rw [show ((c.length - 1 : Nat) : Int) = (c.length : Int) - 1 by omega], rfl⟩ ?_)
    rintro w _ _ ⟨_, rfl, hiw, hw, hv, rfl, rfl⟩
    have hz := hr.ld (i := w) hw
    refine L_regT mixed [0, 3, 4, 37] (by kernel_rfl) (fun K hK => ?_)
    simp [hi1, hw, hx, hz]
    apply hK; clear hK K
    refine L_dec (g c w ≤ g c i) rfl (fun hle => ?_) (fun hgt2 => L_exit ?_)
    · refine L_block ?_
      have hne : w ≠ i + 1 := by rintro rfl; omega
      refine L_reg [0, 3, 4] (fun K hK => ?_)
      simp [wrap_i64 (a := (w : Int) - 1) (by omega)]
      apply hK; clear hK K
      refine ⟨w - 1, [.int .i64 ((w - 1 : Nat) : Int)], by omega, by rw [show ((w - 1 : Nat) : Int) = (w : Int) - 1 by omega]; simp, w - 1, rfl, by omega, by omega, fun j h2 h3 => ?_, rfl, rfl⟩
      rcases Nat.lt_or_ge w j with e | e
      · exact hv j e h3
      · rw [show j = w by omega]; exact hle
    · obtain ⟨H2, H3, s1, s2, s3, s4⟩ := hr.swap (i := i) (j := w) hi1 hw
      refine L_regT mixed [0, 3] (by kernel_rfl) (fun K hK => ?_)
      simp [hi1, hw, hx, hz, s1, s2]
      apply hK; clear hK K
      have hsl : aSlice Try.prog 22 (.slice (some r) 0 c.length ver 1 false) (some (.int .i64 ((i : Int) + 1))) none none = some (SV false r (i + 1) (c.length - (i + 1)) ver) := by
        rw [slice_sl slz22]
        have hb : aBounds c.length (some (.int .i64 ((i : Int) + 1))) none none = some (i + 1, c.length, c.length) := by
          have hi4 : ¬ ((i : Int) + 1 ≤ 0) := by omega
          simp [aBounds, aBound, hi0, hi3, show (i : Int) + 1 ≤ (c.length : Int) by omega]
        simp [hb, SV]
      refine L_reg [] (fun K hK => ?_)
      simp [okFn_low, wrap_i64 (a := (i : Int) + 1) (by omega), hsl]
      refine Reverse_ac false r (i + 1) (c.length - (i + 1)) ver (sw c i w) _ _ s3 (by rw [sw_len]; omega) (by rw [sw_len]; omega) (fun H4 d d1 d2 d3 d4 => ?_)
      simp
      apply hK; clear hK K
      refine L_reg [2] (fun K hK => ?_)
      simp
      apply hK; clear hK K
      rw [sw_len] at d1 d2
      have hnx := next_at (d := d) hiw hw (by omega) (fun j h2 h3 => hfal j h2 h3) hv d1 (fun x hx => by
        rw [d2 x hx]
        by_cases c1 : x < i
        · rw [if_neg (by omega), if_pos c1, sw_o hi1 hw (by omega) (by omega)]
        · rw [if_neg c1]
          by_cases c2 : x = i
          · rw [if_pos c2, if_neg (by omega), c2, sw_i hi1 hw]
          · rw [if_neg c2, if_pos (by omega), show 2 * (i + 1) + (c.length - (i + 1)) - 1 - x = c.length + i - x by omega]
            by_cases c3 : c.length + i - x = w
            · rw [if_pos c3, c3, sw_j hi1 hw]
            · rw [if_neg c3, sw_o hi1 hw (by omega) c3])
      exact L_ret ⟨.inr rfl, _, rfl, ht H4 d hnx d3 (s4.trans d4)⟩
@[simp] theorem s_isc_copy (xs : Array Operand) (ts : Array TypeId) : isFnCall (.call ⟨.builtin .copy, xs, ts⟩) = false := rfl
@[simp] theorem x_copy {P : Program} {H : AH} {ρ : Operand → AV} (x y : Operand) (t u : TypeId) : execN P ρ H (.call ⟨.builtin .copy, #[x, y], #[t, u]⟩) = appV (aCopy P H t (ρ x) (ρ y)) := by
  have : execN P ρ H (.call ⟨.builtin .copy, #[x, y], #[t, u]⟩) = (aCopy P H t (ρ x) (ρ y)).map fun p => (some p.1, p.2) := rfl
  rw [this]
  cases aCopy P H t (ρ x) (ρ y) <;> rfl
theorem takeKnown_is (l : List Int) : takeKnown l.length (l.map (AV.int .i64)) = some (l.map (AV.int .i64)) := by
  induction l with
  | nil => rfl
  | cons a l ih => simp only [List.map_cons, List.length_cons, takeKnown, ih]
theorem copy_rw {H : AH} {r ver : Nat} {v : AV} {c l : List Int} (hw : Rw r ver H c) (hv : Ls H v l) (hl : l.length = c.length) (h1 : 1 ≤ c.length) :
    ∃ H', aCopy Try.prog H 22 (.slice (some r) 0 c.length ver 1 false) v = some (.int .i64 c.length, H') ∧ Rw r ver H' l ∧ KeepX r H H' := by
  obtain ⟨st, hw⟩ := hw
  obtain ⟨e, I, h1', h2, h3, h4, -⟩ := elT_some el22
  obtain ⟨i, z, g1, g2, g3, -⟩ := (tiOf_some h2).2
  obtain ⟨r0, off, ver0, sz, full, rfl, hld⟩ := hv
  have hlw : r < H.length := (List.getElem?_eq_some_iff.1 hw).1
  obtain ⟨r', rfl, rfl, -⟩ := hld 0 (by omega)
  have hl2 : ldn H r' ver0 l.length off = some (l.map (.int .i64)) := ldn_ints fun i hi => by
    obtain ⟨r2, e1, -, e3⟩ := hld i hi
    obtain rfl := Option.some.inj e1
    exact e3
  have hone := all_ints l
  have hst : stn H r ver (l.map (.int .i64)) 0 = some (H.set r (.row (l.map (.int .i64)) ver (min st 0) false)) := by
    have hk := takeKnown_is c
    cases l with
    | nil => simp at hl; omega
    | cons y l =>
      simp only [List.map_cons] at hone ⊢
      simp only [stn, hw, List.drop_zero, List.length_cons, List.length_map] at hk ⊢
      simp only [List.length_cons] at hl
      rw [hl]
      rw [if_pos ⟨trivial, trivial, hone, by rw [hk]; rfl⟩]
      rw [List.drop_of_length_le (by simp)]
      try simp
  refine ⟨_, ?_, ⟨min st 0, get_set hw⟩, (KeepX.refl r H).set _⟩
  have e1 : i.size = 1 := by rw [g3, h3]
  simp only [aCopy, h1', g1, isNilSl, slParts, Bool.false_and, Bool.false_eq_true, if_false, hl, Nat.min_self, e1, Nat.mul_one]
  rw [if_neg (by omega), if_pos ⟨trivial, trivial⟩, ← hl, hl2, Option.bind_some, if_pos hone, hst]
  rfl
/-- append([]int{}, x...) -/
theorem copy_append {P : Program} {H : AH} {t u : TypeId} (ht : elT P t = true) (hu : elT P u = true) {x : AV} {m : List Int} (hx : Ls H x m) (hm : m.length ≤ 16777216) :
    ∃ v' H', aAppend P (H ++ [.row [] 0 0 false]) t u (.slice (some H.length) 0 0 0 1 false) x = some (v', H') ∧ OwnF H.length H' v' (m.map (.int .i64)) ∧ Ext H H' := by
  have := ownF_appendL (H0 := H) (.push H [.row [] 0 0 false]) ht hu (ownF_new H) (hx.ext (.push _ _)) (l := []) (by simpa using hm)
  simpa using this
theorem eq_nil {l : Bool} (r : Option Nat) (off n ver sz : Nat) (full : Bool) : binV Try.prog .eql 22 l (.slice r off n ver sz full) (.slice none 0 0 0 1 false) = some (.bool r.isNone) := by
  simp [binV, aBin, aCmp]
theorem Clone_ac (v : AV) (l : List Int) (H : AH) (Q : AV → AH → Prop) (hlen : l.length ≤ 1000000) (hv : Ls H v l) (h : ∀ v' H', OwnF H.length H' v' (l.map (.int .i64)) → Ext H H' → Q v' H') : AC Try.prog 52 [v] H Q := by
  obtain ⟨r0, off0, ver0, sz0, full0, hv0, hld⟩ := id hv
  refine L_body 8 Try.func52 rfl rfl ?_
  refine L_reg [0] (fun K hK => ?_)
  simp
  apply hK; clear hK K
  cases r0 with
  | none =>
    have hl0 : l = [] := by
      cases l with
      | nil => rfl
      | cons a l => obtain ⟨r', e, -⟩ := hld 0 (by simp); cases e
    refine L_reg [0, 4] (fun K hK => ?_)
    simp [hv0, eq_nil]
    apply hK; clear hK K
    refine L_true rfl ?_
    refine L_reg [2] (fun K hK => ?_)
    simp
    apply hK; clear hK K
    subst hl0
    exact L_ret ⟨.inr rfl, _, rfl, h _ _ (.nil _ _) (.refl _)⟩
  | some r0 =>
    obtain ⟨v', H', happ, hO, hE⟩ := copy_append (P := Try.prog) el22 el22 hv (by omega)
    rw [hv0] at happ
    refine L_reg [0, 4] (fun K hK => ?_)
    simp [hv0, eq_nil]
    apply hK; clear hK K
    refine L_false rfl ?_
    refine L_reg [2] (fun K hK => ?_)
    simp [happ]
    apply hK; clear hK K
    exact L_ret ⟨.inr rfl, _, rfl, h v' H' hO hE⟩
theorem kx_own {N r : Nat} {H H' : AH} {v : AV} {l : List AV} (h : OwnF N H v l) (hk : KeepX r H H') (hr : rowOf v ≠ some r) : OwnF N H' v l := by
  rcases h with h | ⟨q, ver, st, g1, rfl, g3⟩
  · exact .inl h
  · exact .inr ⟨q, ver, st, g1, rfl, hk.row (fun e => hr (by rw [e]; rfl)) g3⟩
set_option maxRecDepth 100000 in
theorem cheapest_ac (v : AV) (l : List Int) (f : FuncId) (caps : List AV) (cost : List Int → Int) (H : AH) (Q : AV → AH → Prop) (h1 : 1 ≤ l.length) (hlen : l.length ≤ 127) (hv : Ls H v l) (hok : okFn Try.prog f = true)
    (hC : ∀ (H' : AH) (v' : AV) (p : List Int) (Q : AV → AH → Prop), Ext H H' → p.Perm l → Ls H' v' p → Q (.int .i64 (cost p)) H' → AC Try.prog f (v' :: caps) H' Q)
    (h : ∀ v' H', OwnF H.length H' v' ((Arr.bestS cost l).map (.int .i64)) → Ext H H' → Q v' H') : AC Try.prog 70 [v, .func (.func f) [] caps] H Q := by
  obtain ⟨r0, off0, ver0, sz0, full0, hv0, -⟩ := id hv
  refine L_body 30 Try.func70 rfl rfl ?_
  refine L_reg [0, 1] (fun K hK => ?_)
  simp
  apply hK; clear hK K
  have hone : v.one = true := by rw [hv0]; rfl
  refine L_reg [1, 5] (fun K hK => ?_)
  simp [okFn_low]
  refine values_ac v hone _ _ ?_
  simp [okFn_low]
  refine Sorted_ac l v H.length _ _ h1 hlen (by simp) (hv.ext (.push _ _)) (fun u H1 m hp hs hO hE => ?_)
  simp
  apply hK; clear hK K
  have hE1 : Ext H H1 := (Ext.push _ _).trans hE
  have hml := hp.length_eq
  rcases hO with ⟨g1, -⟩ | ⟨ra, va, sa, g1, rfl, g3⟩
  · have : m = [] := by simpa using g1
    subst this; simp at hml; omega
  simp only [List.length_append, List.length_singleton] at g1
  rw [List.length_map, hml]
  have hA : Rw ra va H1 m := ⟨sa, g3⟩
  have hAl := hA.ls
  rw [hml] at hAl
  refine L_reg [1, 5, 6, 7] (fun K hK => ?_)
  simp [okFn_low]
  refine Clone_ac _ m _ _ (by omega) hAl (fun w H2 hO2 hE2 => ?_)
  simp [hok]
  refine hC H2 _ m _ (hE1.trans hE2) hp (hAl.ext hE2) ?_
  simp
  apply hK; clear hK K
  rcases hO2 with ⟨g4, -⟩ | ⟨rb, vb, sb, g4, rfl, g5⟩
  · have : m = [] := by simpa using g4
    subst this; simp at hml; omega
  rw [List.length_map, hml]
  have hab : ra ≠ rb := by have := (List.getElem?_eq_some_iff.1 g3).1; omega
  refine L_block (L_loopK [1, 5, 6, 7] [7] (fun n vs H' => ∃ cur b, n = Arr.left l cur ∧ Arr.Seen cost l cur b ∧ vs = [.int .i64 (cost b)] ∧ Rw ra va H' cur ∧ Rw rb vb H' b ∧ Ext H H') _ [.int .i64 (cost m)] rfl rfl ⟨m, m, rfl, Arr.Seen.start hp hs, rfl, hA.ext hE2, ⟨sb, g5⟩, hE1.trans hE2⟩ ?_)
  rintro n _ H3 ⟨cur, b, rfl, hS, rfl, hA3, hB3, hE3⟩
  have hcl := hS.cp.length_eq
  have hbl := hS.bp.length_eq
  refine L_reg [1, 5, 6, 7, 18] (fun K hK => ?_)
  simp [okFn_low]
  refine advance_ac ra va l.length cur hcl h1 (by omega) H3 _ hA3 (fun H4 d hnx hA4 hK4 => ?_) (fun hfl => ?_)
  · simp
    apply hK; clear hK K
    refine L_true rfl ?_
    refine L_block ?_
    have hE4 : Ext H H4 := hK4.new hE3 (by omega)
    have hdp : d.Perm l := hnx.1.trans hS.cp
    have hB4 := hB3.keep hK4 hab.symm
    have hdl := hdp.length_eq
    have hA4l := hA4.ls
    rw [hdl] at hA4l
    have hS4 := hS.next hdp hnx.2.1 (fun p hp => hnx.2.2 p (hp.trans hS.cp.symm))
    have hlt := Arr.left_lt hdp hnx.2.1
    refine L_reg [1, 5, 6, 7, 8] (fun K hK => ?_)
    simp [hok]
    refine hC H4 _ d _ hE4 hdp hA4l ?_
    simp
    apply hK; clear hK K
    refine L_reg [1, 5, 6, 7, 8, 24] (fun K hK => ?_)
    simp
    apply hK; clear hK K
    refine L_dec (cost d < cost b) rfl (fun hc => ?_) (fun hc => ?_)
    · rw [if_pos hc] at hS4
      refine L_reg [1, 5, 6, 7] (fun K hK => ?_)
      simp
      apply hK; clear hK K
      obtain ⟨H5, e1, e2, e3⟩ := copy_rw hB4 hA4l (by omega) (by omega)
      rw [hbl] at e1
      refine L_reg [1, 5, 6, 7] (fun K hK => ?_)
      simp [e1]
      apply hK; clear hK K
      refine ⟨_, [.int .i64 (cost d)], hlt, rfl, d, d, rfl, hS4, rfl, hA4.keep e3 hab, e2, e3.new hE4 (by have := hE1.1; omega)⟩
    · rw [if_neg hc] at hS4
      exact ⟨_, [.int .i64 (cost b)], hlt, rfl, d, b, rfl, hS4, rfl, hA4, hB4, hE4⟩
  · simp
    apply hK; clear hK K
    refine L_false rfl ?_
    refine L_exit ?_
    refine L_reg [4] (fun K hK => ?_)
    simp
    apply hK; clear hK K
    have hb := hS.done hfl
    have hO := hB3.ownF (N := H.length) (by have := hE1.1; omega)
    rw [hbl] at hO
    rw [hb] at hO
    exact L_ret ⟨.inr rfl, _, rfl, h _ H3 hO hE3⟩
end Go.Proofs.Ytpfkioakjmpimaa

/- Boxes, as the program makes them: Step, Sum, Least, Box, Why, Proves, Most, Wide. -/
namespace Go.Proofs.Ytpfkioakjmpimaa
open Go Go.Proofs.Ytpfkioakjmpimaa.AX

/-- The first place of a number in a list, or -1. -/
def idx (x : Int) : List Int → Int
  | [] => -1
  | y :: l => if x = y then 0 else (if idx x l = -1 then -1 else idx x l + 1)
theorem idx_ge (x : Int) : ∀ l, -1 ≤ idx x l
  | [] => by simp [idx]
  | y :: l => by
    have := idx_ge x l
    simp only [idx]
    split
    · omega
    · split <;> omega
theorem idx_lt (x : Int) : ∀ l, idx x l < l.length
  | [] => by simp [idx]
  | y :: l => by
    have := idx_lt x l
    simp only [idx, List.length_cons]
    split
    · omega
    · split <;> omega
theorem idx_drop {x : Int} {l : List Int} {i : Nat} (hi : i < l.length) (hne : g l i ≠ x) : idx x (l.drop i) = if idx x (l.drop (i + 1)) = -1 then -1 else idx x (l.drop (i + 1)) + 1 := by
  rw [List.drop_eq_getElem_cons hi, ← g_lt hi]
  simp only [idx]
  rw [if_neg (fun e => hne e.symm)]
theorem idx_here {x : Int} {l : List Int} {i : Nat} (hi : i < l.length) (h : g l i = x) : idx x (l.drop i) = 0 := by
  rw [List.drop_eq_getElem_cons hi, ← g_lt hi]
  simp only [idx]
  rw [if_pos h.symm]
/-- The same, from a place on. -/
def off (i : Nat) (y : Int) : Int := if y = -1 then -1 else i + y
theorem off_step {x : Int} {l : List Int} {i : Nat} (hi : i < l.length) (hne : g l i ≠ x) : off i (idx x (l.drop i)) = off (i + 1) (idx x (l.drop (i + 1))) := by
  rw [idx_drop hi hne]
  have := idx_ge x (l.drop (i + 1))
  unfold off
  generalize idx x (l.drop (i + 1)) = y at *
  by_cases h : y = -1
  · simp [h]
  · rw [if_neg h, if_neg h, if_neg (by omega)]; omega
theorem Index_ac (v : AV) (l : List Int) (x : Int) (H : AH) (Q : AV → AH → Prop) (hlen : l.length ≤ 1000000) (hv : Ls H v l) (h : Q (.int .i64 (idx x l)) H) : AC Try.prog 72 [v, .int .i64 x] H Q := by
  obtain ⟨r, of, ver, sz, full, rfl, hld⟩ := hv
  refine L_body 19 Try.func72 rfl rfl ?_
  refine L_reg [0, 1] (fun K hK => ?_)
  simp
  apply hK; clear hK K
  refine L_reg [0, 1, 7, 8] (fun K hK => ?_)
  simp
  apply hK; clear hK K
  refine L_block (L_loopV [8] (fun n vs H' => ∃ i : Nat, n = l.length - i ∧ i ≤ l.length ∧ off i (idx x (l.drop i)) = idx x l ∧ vs = [.int .i64 i] ∧ H = H') _ [.int .i64 0] rfl ⟨0, rfl, by omega, by unfold off; rw [List.drop_zero]; split <;> omega, rfl, rfl⟩ ?_)
  rintro n _ _ ⟨i, rfl, hi, hno, rfl, rfl⟩
  refine L_reg [0, 1, 7, 8, 9] (fun K hK => ?_)
  simp
  apply hK; clear hK K
  refine L_dec (i < l.length) (by simp) (fun hlt => ?_) (fun hge => L_exit ?_)
  · refine L_block ?_
    obtain ⟨r', rfl, rfl, hrd⟩ := hld i hlt
    rw [← g_lt hlt] at hrd
    refine L_reg [0, 1, 5, 7, 8] (fun K hK => ?_)
    simp
    apply hK; clear hK K
    refine L_reg [0, 1, 5, 7, 8, 16] (fun K hK => ?_)
    simp [hrd, hlt]
    apply hK; clear hK K
    by_cases e : x = g l i
    · refine L_true (by simp [← e]) ?_
      rw [idx_here hlt e.symm] at hno
      have e3 : off i 0 = i := by unfold off; rw [if_neg (by omega)]; omega
      rw [e3] at hno
      rw [← hno] at h
      refine L_reg [4] (fun K hK => ?_)
      simp
      apply hK; clear hK K
      exact L_ret ⟨.inr rfl, _, rfl, h⟩
    · refine L_false (by simp [e]) ?_
      rw [off_step hlt (fun h => e h.symm)] at hno
      refine L_reg [0, 1, 7, 8] (fun K hK => ?_)
      simp [wrap_i64 (a := (i : Int) + 1) (by omega)]
      apply hK; clear hK K
      exact ⟨l.length - (i + 1), [.int .i64 (i + 1 : Nat)], by omega, by simp, i + 1, rfl, by omega, hno, rfl, rfl⟩
  · have hi' : i = l.length := by omega
    subst hi'
    rw [List.drop_length] at hno
    rw [← hno] at h
    refine L_reg [4] (fun K hK => ?_)
    simp
    apply hK; clear hK K
    exact L_ret ⟨.inr rfl, _, rfl, h⟩
/-- Sorted. -/
def insA (x : Int) : List Int → List Int
  | [] => [x]
  | y :: l => if x ≤ y then x :: y :: l else y :: insA x l
def srt : List Int → List Int
  | [] => []
  | x :: l => insA x (srt l)
theorem insA_perm (x : Int) : ∀ l, (insA x l).Perm (x :: l)
  | [] => .refl _
  | y :: l => by
    simp only [insA]
    split
    · exact .refl _
    · exact ((insA_perm x l).cons y).trans (.swap x y l)
theorem srt_perm : ∀ l, (srt l).Perm l
  | [] => .refl _
  | x :: l => (insA_perm x _).trans ((srt_perm l).cons x)
theorem insA_sorted (x : Int) : ∀ l : List Int, l.Pairwise (· ≤ ·) → (insA x l).Pairwise (· ≤ ·)
  | [], _ => by simp [insA]
  | y :: l, h => by
    simp only [insA]
    rw [List.pairwise_cons] at h
    split
    · rename_i hxy
      rw [List.pairwise_cons, List.pairwise_cons]
      refine ⟨fun z hz => ?_, h⟩
      rcases List.mem_cons.1 hz with rfl | hz
      · exact hxy
      · have := h.1 z hz; omega
    · rename_i hxy
      rw [List.pairwise_cons]
      refine ⟨fun z hz => ?_, insA_sorted x l h.2⟩
      rcases List.mem_cons.1 ((insA_perm x l).mem_iff.1 hz) with rfl | hz
      · omega
      · exact h.1 z hz
theorem srt_sorted : ∀ l, (srt l).Pairwise (· ≤ ·)
  | [] => .nil
  | x :: l => insA_sorted x _ (srt_sorted l)
theorem srt_eq {l m : List Int} (hp : m.Perm l) (hs : m.Pairwise (· ≤ ·)) : m = srt l :=
  (Arr.rises_min hs ((srt_perm l).trans hp.symm)).anti (Arr.rises_min (srt_sorted l) (hp.trans (srt_perm l).symm))
theorem srt_len (l : List Int) : (srt l).length = l.length := (srt_perm l).length_eq
theorem srt_congr {l m : List Int} (hp : m.Perm l) : srt m = srt l := srt_eq ((srt_perm m).trans hp) (srt_sorted m)
def rsS (r : Bool) (l : List Int) : List Int := risesS r (srt l)
theorem reach_le {n : Nat} (h : 1 ≤ n) (r : Bool) : reachS n r ≤ n ∧ 1 ≤ reachS n r := by unfold reachS; split <;> omega
theorem rsS_len (r : Bool) (l : List Int) : (rsS r l).length = l.length - reachS l.length r := by simp [rsS, risesS, srt_len]
theorem g_rs {r : Bool} {l : List Int} {i : Nat} (h : i < l.length - reachS l.length r) : g (rsS r l) i = g (srt l) (i + reachS l.length r) - g (srt l) i := by
  rw [g_lt (by rw [rsS_len]; exact h)]
  simp [rsS, risesS, srt_len]
theorem least_is (r : Bool) (l : List Int) : stepC r (Arr.bestS (stepC r) l) = gr (rsS r l) := least_eq (srt_sorted l) (srt_perm l)
theorem Bd.perm {M : Int} {l m : List Int} (h : Bd M l) (hp : m.Perm l) : Bd M m := fun x hx => h x (hp.mem_iff.1 hx)
set_option maxRecDepth 100000 in
theorem rises_ac (v : AV) (l : List Int) (r : Bool) (H : AH) (Q : AV → AH → Prop) (h1 : 1 ≤ l.length) (hlen : l.length ≤ 127) (hb : Bd 1000 l) (hv : Ls H v l)
    (h : ∀ v' H', OwnF H.length H' v' ((rsS r l).map (.int .i64)) → Ext H H' → Q v' H') : AC Try.prog 65 [v, .bool r] H Q := by
  obtain ⟨r0, off0, ver0, sz0, full0, hv0, -⟩ := id hv
  have hone : v.one = true := by rw [hv0]; rfl
  refine L_body 42 Try.func65 rfl rfl ?_
  refine L_reg [0, 1] (fun K hK => ?_)
  simp
  apply hK; clear hK K
  refine L_reg [1, 5] (fun K hK => ?_)
  simp [okFn_low]
  refine values_ac v hone _ _ ?_
  simp [okFn_low]
  refine Sorted_ac l v H.length _ _ h1 hlen (by simp) (hv.ext (.push _ _)) (fun u H1 m hp hs hO hE => ?_)
  simp
  apply hK; clear hK K
  obtain rfl := srt_eq hp hs
  have hsl := srt_len l
  have hE1 : Ext H H1 := (Ext.push _ _).trans hE
  have hbs := hb.perm (srt_perm l)
  have hu := hO.own.ls
  have hul := ls_len hu
  rw [hsl] at hul
  obtain ⟨hr1, hr2⟩ := reach_le h1 r
  refine L_reg [5, 6] (fun K hK => ?_)
  simp [okFn_low, hul]
  refine reach_ac l.length r _ _ ?_
  simp
  apply hK; clear hK K
  have e1 : (l.length : Int) - (reachS l.length r : Int) = ((l.length - reachS l.length r : Nat) : Int) := by omega
  have hrl := rsS_len r l
  have hg : ∀ i, i < l.length - reachS l.length r → g (rsS r l) i = g (srt l) (i + reachS l.length r) - g (srt l) i := fun i hi => g_rs hi
  generalize rsS r l = R at *
  generalize hR : reachS l.length r = f at *
  generalize hk : l.length - f = k at *
  refine L_reg [5, 6, 7] (fun K hK => ?_)
  simp [hul, e1, wrap_i64 (a := (k : Int)) (by omega), make_z elz22 (show k ≤ 16777216 by omega)]
  apply hK; clear hK K
  have hw : Rw H1.length 0 (H1 ++ [AObj.row (List.replicate k (AV.int .i64 0)) 0 0 false]) (List.replicate k 0) := ⟨0, by simp⟩
  have hE2 : Ext H1 (H1 ++ [AObj.row (List.replicate k (AV.int .i64 0)) 0 0 false]) := .push _ _
  have hE3 := hE1.trans hE2
  have hu2 := hu.ext hE2
  have hge := hE1.1
  generalize H1 ++ [AObj.row (List.replicate k (AV.int .i64 0)) 0 0 false] = H2 at hw hE2 hE3 hu2 ⊢
  refine L_reg [5, 6, 7, 22, 23] (fun K hK => ?_)
  simp
  apply hK; clear hK K
  refine L_block (L_loopV [23] (fun n vs H' => ∃ (i : Nat) (d : List Int), n = k - i ∧ i ≤ k ∧ d.length = k ∧ (∀ j, j < i → g d j = g R j) ∧ vs = [.int .i64 i] ∧ Rw H1.length 0 H' d ∧ KeepX H1.length H2 H') _ [.int .i64 0] rfl ⟨0, _, rfl, by omega, by simp, fun j hj => by omega, rfl, hw, .refl _ _⟩ ?_)
  rintro n _ H3 ⟨i, d, rfl, hi, hdl, hd, rfl, hrow, hK3⟩
  refine L_reg [5, 6, 7, 22, 23, 24] (fun K hK => ?_)
  simp
  apply hK; clear hK K
  refine L_dec (i < k) (by simp) (fun hlt => ?_) (fun hge => L_exit ?_)
  · refine L_block ?_
    have hu3 : Ls H3 u (srt l) := ls_keep hu2 fun j hj hj2 => by
      have := ownF_rowlt hO hj2
      exact hK3.2 j (by simp at this; omega) hj
    obtain ⟨rz, pz, vz, hix, hld⟩ := ls_ix hu3 (i := i) (by omega)
    obtain ⟨ry, py, vy, hiy, hldy⟩ := ls_ix hu3 (i := i + f) (by omega)
    rw [show ((i + f : Nat) : Int) = (i : Int) + f by omega] at hiy
    obtain ⟨H4, e3, e4, e5⟩ := hrow.put (i := i) (by omega) (g R i)
    have b1 := sh_g hbs (i := i) (by omega)
    have b2 := sh_g hbs (i := i + f) (by omega)
    have hgi := hg i hlt
    refine L_reg [5, 6, 7, 8, 22, 23] (fun K hK => ?_)
    simp
    apply hK; clear hK K
    refine L_regT mixed [5, 6, 7, 22, 23] (by kernel_rfl) (fun K hK => ?_)
    simp [hix, hld, hiy, hldy, wrap_i64 (a := (i : Int) + f) (by omega), ← hgi, wrap_i64 (a := g R i) (by omega), hlt, e3]
    apply hK; clear hK K
    refine L_reg [5, 6, 7, 22, 23] (fun K hK => ?_)
    simp [wrap_i64 (a := (i : Int) + 1) (by omega)]
    apply hK; clear hK K
    refine ⟨k - (i + 1), [.int .i64 (i + 1 : Nat)], by omega, by simp, i + 1, _, rfl, by omega, by simpa using hdl, fun j hj => ?_, rfl, e4, hK3.trans e5⟩
    rw [g_set (by omega)]
    split
    · rename_i e; rw [e]
    · exact hd j (by omega)
  · have : d = R := g_ext (by omega) fun j hj => hd j (by omega)
    subst this
    refine L_reg [4] (fun K hK => ?_)
    simp
    apply hK; clear hK K
    have := hrow.ownF (N := H.length) (by omega)
    rw [hdl] at this
    exact L_ret ⟨.inr rfl, _, rfl, h _ H3 this (hK3.new hE3 (by omega))⟩
theorem least_q (v : AV) (l : List Int) (r : Bool) (H : AH) (Q : AV → AH → Prop) (h1 : 1 ≤ l.length) (hlen : l.length ≤ 127) (hb : Bd 1000 l) (hv : Ls H v l) (h : Q (.int .i64 (gr (rsS r l))) H) : AC Try.prog 68 [v, .bool r] H Q := by
  refine AC.quiet (belB_int _ _ _ _) (fun Q h => ?_) Q h
  refine L_body 9 Try.func68 rfl rfl ?_
  refine L_reg [0, 1] (fun K hK => ?_)
  simp
  apply hK; clear hK K
  have hsl := rsS_len r l
  refine L_reg [4] (fun K hK => ?_)
  simp [okFn_low]
  refine rises_ac v l r _ _ h1 hlen hb hv (fun w H1 hO hE => ?_)
  simp [okFn_low]
  refine greatest_ac w _ _ _ (by omega) hO.own.ls ?_
  simp
  apply hK; clear hK K
  exact L_ret ⟨.inr rfl, _, rfl, h H1 hE⟩
theorem boxC_ac (pr : Nat) (r : Bool) (v : AV) (p : List Int) (H : AH) (Q : AV → AH → Prop) (hr : ∃ s, H[pr]? = some (.row [.bool r] 0 s false)) (hlen : p.length ≤ 1000000) (hb : Bd 1000 p) (hv : Ls H v p) (h : Q (.int .i64 (stepC r p)) H) : AC Try.prog 71 [v, .ptr pr 0 0] H Q := by
  obtain ⟨s, hr⟩ := hr
  have e1 : ld H pr 0 0 = some (.bool r) := by rw [ld_row hr]; rfl
  refine L_body 7 Try.func71 rfl rfl ?_
  refine L_reg [0, 1] (fun K hK => ?_)
  simp
  apply hK; clear hK K
  refine L_reg [3] (fun K hK => ?_)
  simp [okFn_low, e1]
  refine greatest_q v p r _ _ hlen hb hv ?_
  simp
  apply hK; clear hK K
  exact L_ret ⟨.inr rfl, _, rfl, h⟩
theorem wideC_ac (pr : Nat) (r : Bool) (v : AV) (p : List Int) (H : AH) (Q : AV → AH → Prop) (hr : ∃ s, H[pr]? = some (.row [.bool r] 0 s false)) (hlen : p.length ≤ 1000000) (hb : Bd 1000 p) (hv : Ls H v p) (h : Q (.int .i64 (-sumC r p)) H) : AC Try.prog 100 [v, .ptr pr 0 0] H Q := by
  obtain ⟨s, hr⟩ := hr
  have e1 : ld H pr 0 0 = some (.bool r) := by rw [ld_row hr]; rfl
  have hs := sum_small (by decide) (df_bd hb (r := r)) (by decide) (by have := stepsS_len r p; omega)
  refine L_body 8 Try.func100 rfl rfl ?_
  refine L_reg [0, 1] (fun K hK => ?_)
  simp
  apply hK; clear hK K
  refine L_reg [3] (fun K hK => ?_)
  simp [okFn_low, e1]
  refine sum_q v p r _ _ hlen hb hv ?_
  simp [wrap_i64 (a := -sumC r p) (by unfold sumC; omega)]
  apply hK; clear hK K
  exact L_ret ⟨.inr rfl, _, rfl, h⟩
def wideS (r : Bool) (l : List Int) : List Int := Arr.bestS (fun p => -sumC r p) l
def boxS (r : Bool) (l : List Int) : List Int := Arr.bestS (stepC r) l
theorem wide_ac (v : AV) (l : List Int) (r : Bool) (H : AH) (Q : AV → AH → Prop) (h1 : 1 ≤ l.length) (hlen : l.length ≤ 127) (hb : Bd 1000 l) (hv : Ls H v l)
    (h : ∀ v' H', OwnF H.length H' v' ((wideS r l).map (.int .i64)) → Ext H H' → Q v' H') : AC Try.prog 73 [v, .bool r] H Q := by
  refine L_body 8 Try.func73 rfl rfl ?_
  refine L_reg [0, 3] (fun K hK => ?_)
  simp [AV.isU, acells]
  apply hK; clear hK K
  have hE := Ext.push H [AObj.row [AV.bool r] 0 0 false]
  have hp : (H ++ [AObj.row [AV.bool r] 0 0 false])[H.length]? = some (.row [.bool r] 0 0 false) := by simp
  have hl1 : (H ++ [AObj.row [AV.bool r] 0 0 false]).length = H.length + 1 := by simp
  generalize H ++ [AObj.row [AV.bool r] 0 0 false] = H1 at hE hp hl1 ⊢
  refine L_reg [4] (fun K hK => ?_)
  simp [okFn_low]
  refine cheapest_ac v l 100 [.ptr H.length 0 0] (fun p => -sumC r p) H1 _ h1 hlen (hv.ext hE) (okFn_low (by omega) (by omega)) (fun H' v' p Q hE2 hp2 hv2 hQ => wideC_ac H.length r v' p H' Q ⟨0, hE2.row hp⟩ (by have := hp2.length_eq; omega) (hb.perm hp2) hv2 hQ) (fun w H2 hO hE2 => ?_)
  simp
  apply hK; clear hK K
  exact L_ret ⟨.inr rfl, _, rfl, h w H2 (hO.mono (by omega)) (hE.trans hE2)⟩
theorem Bd.ok {l : List Int} (h : shE l = 0) : 1 ≤ l.length ∧ l.length ≤ 7 ∧ Bd 1000 l := by
  obtain ⟨h1, h2, h3⟩ := shE_ok h
  exact ⟨by omega, h2, fun x hx => by have := h3 x hx; omega⟩
theorem Step_ac (v : AV) (l : List Int) (r : Bool) (H : AH) (Q : AV → AH → Prop) (hlen : l.length ≤ 1000000) (hv : Ls H v l) (h : Q (.tuple [.int .i64 (if shE l = 0 then stepC r l else 0), .int .i64 (shE l)]) H) : AC Try.prog 16 [v, .bool r] H Q := by
  refine L_body 15 Try.func16 rfl rfl ?_
  refine L_reg [0, 1] (fun K hK => ?_)
  simp
  apply hK; clear hK K
  refine L_reg [0, 1, 6] (fun K hK => ?_)
  simp [okFn_low]
  refine Check_ac v l _ _ hlen hv ?_
  simp
  apply hK; clear hK K
  refine L_reg [0, 1, 6, 10] (fun K hK => ?_)
  simp
  apply hK; clear hK K
  by_cases h0 : shE l = 0
  · obtain ⟨b1, b2, b3⟩ := Bd.ok h0
    rw [if_pos h0] at h
    refine L_false (by simp [h0]) ?_
    refine L_reg [4, 5] (fun K hK => ?_)
    simp [okFn_low]
    refine greatest_q v l r _ _ hlen b3 hv ?_
    simp
    apply hK; clear hK K
    rw [h0] at h
    exact L_ret ⟨.inr rfl, _, rfl, h⟩
  · rw [if_neg h0] at h
    refine L_true (by simp [h0]) ?_
    refine L_reg [4, 5] (fun K hK => ?_)
    simp
    apply hK; clear hK K
    exact L_ret ⟨.inr rfl, _, rfl, h⟩
theorem Sum_ac (v : AV) (l : List Int) (r : Bool) (H : AH) (Q : AV → AH → Prop) (hlen : l.length ≤ 1000000) (hv : Ls H v l) (h : Q (.tuple [.int .i64 (if shE l = 0 then sumC r l else 0), .int .i64 (shE l)]) H) : AC Try.prog 18 [v, .bool r] H Q := by
  refine L_body 15 Try.func18 rfl rfl ?_
  refine L_reg [0, 1] (fun K hK => ?_)
  simp
  apply hK; clear hK K
  refine L_reg [0, 1, 6] (fun K hK => ?_)
  simp [okFn_low]
  refine Check_ac v l _ _ hlen hv ?_
  simp
  apply hK; clear hK K
  refine L_reg [0, 1, 6, 10] (fun K hK => ?_)
  simp
  apply hK; clear hK K
  by_cases h0 : shE l = 0
  · obtain ⟨b1, b2, b3⟩ := Bd.ok h0
    rw [if_pos h0] at h
    refine L_false (by simp [h0]) ?_
    refine L_reg [4, 5] (fun K hK => ?_)
    simp [okFn_low]
    refine sum_q v l r _ _ hlen b3 hv ?_
    simp
    apply hK; clear hK K
    rw [h0] at h
    exact L_ret ⟨.inr rfl, _, rfl, h⟩
  · rw [if_neg h0] at h
    refine L_true (by simp [h0]) ?_
    refine L_reg [4, 5] (fun K hK => ?_)
    simp
    apply hK; clear hK K
    exact L_ret ⟨.inr rfl, _, rfl, h⟩
theorem Least_ac (v : AV) (l : List Int) (r : Bool) (H : AH) (Q : AV → AH → Prop) (hlen : l.length ≤ 1000000) (hv : Ls H v l) (h : Q (.tuple [.int .i64 (if shE l = 0 then gr (rsS r l) else 0), .int .i64 (shE l)]) H) : AC Try.prog 24 [v, .bool r] H Q := by
  refine L_body 15 Try.func24 rfl rfl ?_
  refine L_reg [0, 1] (fun K hK => ?_)
  simp
  apply hK; clear hK K
  refine L_reg [0, 1, 6] (fun K hK => ?_)
  simp [okFn_low]
  refine Check_ac v l _ _ hlen hv ?_
  simp
  apply hK; clear hK K
  refine L_reg [0, 1, 6, 10] (fun K hK => ?_)
  simp
  apply hK; clear hK K
  by_cases h0 : shE l = 0
  · obtain ⟨b1, b2, b3⟩ := Bd.ok h0
    rw [if_pos h0] at h
    refine L_false (by simp [h0]) ?_
    refine L_reg [4, 5] (fun K hK => ?_)
    simp [okFn_low]
    refine least_q v l r _ _ b1 (by omega) b3 hv ?_
    simp
    apply hK; clear hK K
    rw [h0] at h
    exact L_ret ⟨.inr rfl, _, rfl, h⟩
  · rw [if_neg h0] at h
    refine L_true (by simp [h0]) ?_
    refine L_reg [4, 5] (fun K hK => ?_)
    simp
    apply hK; clear hK K
    exact L_ret ⟨.inr rfl, _, rfl, h⟩
def orNil (e : Int) (l : List Int) : List Int := if e = 0 then l else []
theorem Box_ac (v : AV) (l : List Int) (r : Bool) (H : AH) (Q : AV → AH → Prop) (hlen : l.length ≤ 1000000) (hv : Ls H v l) (h : ∀ w H', OwnF H.length H' w ((orNil (shE l) (boxS r l)).map (.int .i64)) → Ext H H' → Q (.tuple [w, .int .i64 (shE l)]) H') : AC Try.prog 26 [v, .bool r] H Q := by
  refine L_body 15 Try.func26 rfl rfl ?_
  refine L_reg [0, 3] (fun K hK => ?_)
  simp [AV.isU, acells]
  apply hK; clear hK K
  have hE := Ext.push H [AObj.row [AV.bool r] 0 0 false]
  have hp : (H ++ [AObj.row [AV.bool r] 0 0 false])[H.length]? = some (.row [.bool r] 0 0 false) := by simp
  have hl1 : (H ++ [AObj.row [AV.bool r] 0 0 false]).length = H.length + 1 := by simp
  generalize H ++ [AObj.row [AV.bool r] 0 0 false] = H1 at hE hp hl1 ⊢
  refine L_reg [0, 3, 6] (fun K hK => ?_)
  simp [okFn_low]
  refine Check_ac v l _ _ hlen (hv.ext hE) ?_
  simp
  apply hK; clear hK K
  refine L_reg [0, 3, 6, 10] (fun K hK => ?_)
  simp
  apply hK; clear hK K
  unfold orNil at h
  by_cases h0 : shE l = 0
  · obtain ⟨b1, b2, b3⟩ := Bd.ok h0
    rw [if_pos h0] at h
    refine L_false (by simp [h0]) ?_
    refine L_reg [4, 5] (fun K hK => ?_)
    simp [okFn_low]
    refine cheapest_ac v l 71 [.ptr H.length 0 0] (stepC r) H1 _ b1 (by omega) (hv.ext hE) (okFn_low (by omega) (by omega)) (fun H' v' p Q hE2 hp2 hv2 hQ => boxC_ac H.length r v' p H' Q ⟨0, hE2.row hp⟩ (by have := hp2.length_eq; omega) (b3.perm hp2) hv2 hQ) (fun w H2 hO hE2 => ?_)
    simp
    apply hK; clear hK K
    rw [h0] at h
    exact L_ret ⟨.inr rfl, _, rfl, h w H2 (hO.mono (by omega)) (hE.trans hE2)⟩
  · rw [if_neg h0] at h
    refine L_true (by simp [h0]) ?_
    refine L_reg [4, 5] (fun K hK => ?_)
    simp
    apply hK; clear hK K
    exact L_ret ⟨.inr rfl, _, rfl, h _ _ (.nil _ _) hE⟩
theorem Wide_ac (v : AV) (l : List Int) (r : Bool) (H : AH) (Q : AV → AH → Prop) (hlen : l.length ≤ 1000000) (hv : Ls H v l) (h : ∀ w H', OwnF H.length H' w ((orNil (shE l) (wideS r l)).map (.int .i64)) → Ext H H' → Q (.tuple [w, .int .i64 (shE l)]) H') : AC Try.prog 33 [v, .bool r] H Q := by
  refine L_body 15 Try.func33 rfl rfl ?_
  refine L_reg [0, 1] (fun K hK => ?_)
  simp
  apply hK; clear hK K
  refine L_reg [0, 1, 6] (fun K hK => ?_)
  simp [okFn_low]
  refine Check_ac v l _ _ hlen hv ?_
  simp
  apply hK; clear hK K
  refine L_reg [0, 1, 6, 10] (fun K hK => ?_)
  simp
  apply hK; clear hK K
  unfold orNil at h
  by_cases h0 : shE l = 0
  · obtain ⟨b1, b2, b3⟩ := Bd.ok h0
    rw [if_pos h0] at h
    refine L_false (by simp [h0]) ?_
    refine L_reg [4, 5] (fun K hK => ?_)
    simp [okFn_low]
    refine wide_ac v l r _ _ b1 (by omega) b3 hv (fun w H2 hO hE2 => ?_)
    simp
    apply hK; clear hK K
    rw [h0] at h
    exact L_ret ⟨.inr rfl, _, rfl, h w H2 hO hE2⟩
  · rw [if_neg h0] at h
    refine L_true (by simp [h0]) ?_
    refine L_reg [4, 5] (fun K hK => ?_)
    simp
    apply hK; clear hK K
    exact L_ret ⟨.inr rfl, _, rfl, h _ _ (.nil _ _) (.refl _)⟩
theorem wideS_perm (r : Bool) (l : List Int) : (wideS r l).Perm l := (Arr.best_is _ l).1
theorem boxS_perm (r : Bool) (l : List Int) : (boxS r l).Perm l := (Arr.best_is _ l).1
theorem Most_ac (v : AV) (l : List Int) (r : Bool) (H : AH) (Q : AV → AH → Prop) (hlen : l.length ≤ 1000000) (hv : Ls H v l) (h : Q (.tuple [.int .i64 (if shE l = 0 then sumC r (wideS r l) else 0), .int .i64 (shE l)]) H) : AC Try.prog 31 [v, .bool r] H Q := by
  refine AC.quiet (by simp [belB]) (fun Q h => ?_) Q h
  refine L_body 17 Try.func31 rfl rfl ?_
  refine L_reg [0, 1] (fun K hK => ?_)
  simp
  apply hK; clear hK K
  refine L_reg [0, 1, 6] (fun K hK => ?_)
  simp [okFn_low]
  refine Check_ac v l _ _ hlen hv ?_
  simp
  apply hK; clear hK K
  refine L_reg [0, 1, 6, 10] (fun K hK => ?_)
  simp
  apply hK; clear hK K
  by_cases h0 : shE l = 0
  · obtain ⟨b1, b2, b3⟩ := Bd.ok h0
    rw [if_pos h0] at h
    refine L_false (by simp [h0]) ?_
    have hp := wideS_perm r l
    have hpl := hp.length_eq
    refine L_reg [4, 5] (fun K hK => ?_)
    simp [okFn_low]
    refine wide_ac v l r _ _ b1 (by omega) b3 hv (fun w H2 hO hE2 => ?_)
    simp [okFn_low]
    refine sum_q w _ r _ _ (by omega) (b3.perm hp) hO.own.ls ?_
    simp
    apply hK; clear hK K
    rw [h0] at h
    exact L_ret ⟨.inr rfl, _, rfl, h H2 hE2⟩
  · rw [if_neg h0] at h
    refine L_true (by simp [h0]) ?_
    refine L_reg [4, 5] (fun K hK => ?_)
    simp
    apply hK; clear hK K
    exact L_ret ⟨.inr rfl, _, rfl, h _ (.refl _)⟩
def whyE (l : List Int) : Int := if shE l = 0 then (if l.length = 1 then 12 else 0) else shE l
def whyS (r : Bool) (l : List Int) : Int := if whyE l = 0 then idx (gr (rsS r l)) (rsS r l) else 0
theorem Why_ac (v : AV) (l : List Int) (r : Bool) (H : AH) (Q : AV → AH → Prop) (hlen : l.length ≤ 1000000) (hv : Ls H v l) (h : Q (.tuple [.int .i64 (whyS r l), .int .i64 (whyE l)]) H) : AC Try.prog 28 [v, .bool r] H Q := by
  refine AC.quiet (by simp [belB]) (fun Q h => ?_) Q h
  have hl := ls_len hv
  refine L_body 22 Try.func28 rfl rfl ?_
  refine L_reg [0, 1] (fun K hK => ?_)
  simp
  apply hK; clear hK K
  refine L_reg [0, 1, 6] (fun K hK => ?_)
  simp [okFn_low]
  refine Check_ac v l _ _ hlen hv ?_
  simp
  apply hK; clear hK K
  refine L_reg [0, 1, 6, 10] (fun K hK => ?_)
  simp
  apply hK; clear hK K
  unfold whyS at h
  unfold whyE at h
  by_cases h0 : shE l = 0
  · obtain ⟨b1, b2, b3⟩ := Bd.ok h0
    rw [if_pos h0] at h
    refine L_false (by simp [h0]) ?_
    refine L_reg [0, 1, 14] (fun K hK => ?_)
    simp [hl]
    apply hK; clear hK K
    by_cases h2 : l.length = 1
    · refine L_true (by simp [h2]) ?_
      refine L_reg [4, 5] (fun K hK => ?_)
      simp
      apply hK; clear hK K
      exact L_ret ⟨.inr rfl, _, rfl, by simpa [h2] using h _ (.refl _)⟩
    · refine L_false (by simp; omega) ?_
      rw [if_neg h2, if_pos rfl] at h
      have hrl := rsS_len r l
      refine L_reg [4, 5] (fun K hK => ?_)
      simp [okFn_low]
      refine rises_ac v l r _ _ b1 (by omega) b3 hv (fun w H2 hO hE2 => ?_)
      simp [okFn_low]
      refine least_q v l r _ _ b1 (by omega) b3 (hv.ext hE2) ?_
      simp [okFn_low]
      refine Index_ac w _ _ _ _ (by omega) hO.own.ls ?_
      simp
      apply hK; clear hK K
      exact L_ret ⟨.inr rfl, _, rfl, h H2 hE2⟩
  · rw [if_neg h0, if_neg h0] at h
    refine L_true (by simp [h0]) ?_
    refine L_reg [4, 5] (fun K hK => ?_)
    simp
    apply hK; clear hK K
    exact L_ret ⟨.inr rfl, _, rfl, h _ (.refl _)⟩
def provE (l : List Int) (r : Bool) (i s : Int) : Int := if shE l = 0 then (if 0 ≤ i ∧ i < (rsS r l).length then (if g (rsS r l) i.toNat < s then 14 else 0) else 1) else shE l
theorem Proves_ac (v : AV) (l : List Int) (r : Bool) (i s : Int) (H : AH) (Q : AV → AH → Prop) (hlen : l.length ≤ 1000000) (hv : Ls H v l) (h : Q (.int .i64 (provE l r i s)) H) : AC Try.prog 22 [v, .bool r, .int .i64 i, .int .i64 s] H Q := by
  refine AC.quiet (belB_int _ _ _ _) (fun Q h => ?_) Q h
  refine L_body 33 Try.func22 rfl rfl ?_
  refine L_reg [0, 1, 2, 3] (fun K hK => ?_)
  simp
  apply hK; clear hK K
  refine L_reg [0, 1, 2, 3, 9] (fun K hK => ?_)
  simp [okFn_low]
  refine Check_ac v l _ _ hlen hv ?_
  simp
  apply hK; clear hK K
  refine L_reg [0, 1, 2, 3, 9, 14] (fun K hK => ?_)
  simp
  apply hK; clear hK K
  unfold provE at h
  by_cases h0 : shE l = 0
  · obtain ⟨b1, b2, b3⟩ := Bd.ok h0
    rw [if_pos h0] at h
    refine L_false (by simp [h0]) ?_
    refine L_reg [2, 3, 10] (fun K hK => ?_)
    simp [okFn_low]
    refine rises_ac v l r _ _ b1 (by omega) b3 hv (fun w H2 hO hE2 => ?_)
    simp
    apply hK; clear hK K
    have hw := hO.own.ls
    have hwl := ls_len hw
    by_cases c1 : i < 0
    · rw [if_neg (by omega)] at h
      refine L_reg [2, 3, 10, 26] (fun K hK => ?_)
      simp [c1, pickV]
      apply hK; clear hK K
      refine L_true rfl ?_
      refine L_reg [8] (fun K hK => ?_)
      simp
      apply hK; clear hK K
      exact L_ret ⟨.inr rfl, _, rfl, h H2 hE2⟩
    · refine L_reg [2, 3, 10, 26] (fun K hK => ?_)
      simp [c1, pickV, hwl]
      apply hK; clear hK K
      refine L_dec (((rsS r l).length : Int) ≤ i) (by simp) (fun c2 => ?_) (fun c2 => ?_)
      · rw [if_neg (by omega)] at h
        refine L_reg [8] (fun K hK => ?_)
        simp
        apply hK; clear hK K
        exact L_ret ⟨.inr rfl, _, rfl, h H2 hE2⟩
      · rw [if_pos (by omega)] at h
        obtain ⟨k, rfl⟩ : ∃ k : Nat, i = k := ⟨i.toNat, by omega⟩
        obtain ⟨rz, pz, vz, hix, hld⟩ := ls_ix hw (i := k) (by omega)
        simp only [Int.toNat_natCast] at h
        refine L_reg [32] (fun K hK => ?_)
        simp [hix, hld]
        apply hK; clear hK K
        refine L_dec (g (rsS r l) k < s) (by simp) (fun c3 => ?_) (fun c3 => ?_)
        · rw [if_pos c3] at h
          refine L_reg [8] (fun K hK => ?_)
          simp
          apply hK; clear hK K
          exact L_ret ⟨.inr rfl, _, rfl, h H2 hE2⟩
        · rw [if_neg c3] at h
          refine L_reg [8] (fun K hK => ?_)
          simp
          apply hK; clear hK K
          exact L_ret ⟨.inr rfl, _, rfl, h H2 hE2⟩
  · rw [if_neg h0] at h
    refine L_true (by simp [h0]) ?_
    refine L_reg [8] (fun K hK => ?_)
    simp
    apply hK; clear hK K
    exact L_ret ⟨.inr rfl, _, rfl, h _ (.refl _)⟩
end Go.Proofs.Ytpfkioakjmpimaa

/- The reference: sorted shades, all arrangements. -/
namespace Go.Proofs.Ytpfkioakjmpimaa
open Go Go.Proofs.Ytpfkioakjmpimaa.AX

/-! ### All arrangements, as the reference lists them -/
def wo (l : List Int) (i : Nat) : List Int := l.take i ++ l.drop (i + 1)
theorem wo_len {l : List Int} {i : Nat} (h : i < l.length) : (wo l i).length = l.length - 1 := by simp [wo]; omega
theorem wo_perm {l : List Int} {i : Nat} (h : i < l.length) : (g l i :: wo l i).Perm l := by
  have e : l = l.take i ++ g l i :: l.drop (i + 1) := by
    rw [g_lt h, ← List.drop_eq_getElem_cons h, List.take_append_drop]
  exact List.perm_middle.symm.trans (List.Perm.of_eq e.symm)
def allS : Nat → List Int → List Int → List (List Int)
  | 0, begun, _ => [begun]
  | n + 1, begun, left => (List.range left.length).flatMap fun i => if g left i ∈ left.take i then [] else allS n (begun ++ [g left i]) (wo left i)
theorem mem_allS : ∀ (n : Nat) (begun left p : List Int), left.length = n → (p ∈ allS n begun left ↔ ∃ q, q.Perm left ∧ p = begun ++ q)
  | 0, begun, left, p, h => by
    have : left = [] := List.eq_nil_of_length_eq_zero h
    subst this
    simp [allS]
  | n + 1, begun, left, p, h => by
    simp only [allS, List.mem_flatMap, List.mem_range]
    constructor
    · rintro ⟨i, hi, hp⟩
      split at hp
      · simp at hp
      · obtain ⟨q, hq, rfl⟩ := (mem_allS n _ _ p (by rw [wo_len hi]; omega)).1 hp
        exact ⟨g left i :: q, (hq.cons _).trans (wo_perm hi), by simp⟩
    · rintro ⟨q, hq, rfl⟩
      cases q with
      | nil => have := hq.length_eq; simp at this; omega
      | cons x q =>
        have hx : x ∈ left := hq.subset (by simp)
        obtain ⟨xs, ys, e, hn⟩ := List.eq_append_cons_of_mem hx
        have hi : xs.length < left.length := by rw [e]; simp
        have hg : g left xs.length = x := by rw [g_lt hi]; simp [e]
        have ht : left.take xs.length = xs := by rw [e]; simp
        refine ⟨xs.length, hi, ?_⟩
        rw [hg, ht, if_neg hn]
        refine (mem_allS n _ _ _ (by rw [wo_len hi]; omega)).2 ⟨q, ?_, by simp⟩
        have := hq.trans (wo_perm hi).symm
        rw [hg] at this
        exact (List.perm_cons x).1 this
def fac : Nat → Nat
  | 0 => 1
  | n + 1 => (n + 1) * fac n
theorem flat_congr {α β : Type} {f h : α → List β} : ∀ {l : List α}, (∀ i ∈ l, f i = h i) → l.flatMap f = l.flatMap h
  | [], _ => rfl
  | a :: l, e => by
    rw [List.flatMap_cons, List.flatMap_cons, e a (by simp), flat_congr fun i hi => e i (by simp [hi])]
theorem flat_le {α : Type} {f : Nat → List α} {M : Nat} (h : ∀ i, (f i).length ≤ M) : ∀ m, ((List.range m).flatMap f).length ≤ m * M
  | 0 => by simp
  | m + 1 => by
    rw [List.range_succ, List.flatMap_append, List.length_append]
    have := flat_le h m
    have := h m
    simp only [List.flatMap_cons, List.flatMap_nil, List.append_nil, Nat.succ_mul]
    omega
theorem allS_len : ∀ (n : Nat) (begun left : List Int), left.length = n → (allS n begun left).length ≤ fac n
  | 0, _, _, _ => by simp [allS, fac]
  | n + 1, begun, left, h => by
    simp only [allS, fac]
    have : ∀ i, (if i < left.length then (if g left i ∈ left.take i then [] else allS n (begun ++ [g left i]) (wo left i)) else ([] : List (List Int))).length ≤ fac n := fun i => by
      split
      · rename_i hi
        split
        · simp
        · exact allS_len n _ _ (by rw [wo_len hi]; omega)
      · simp
    have h2 := flat_le this left.length
    have e : (List.range left.length).flatMap (fun i => if g left i ∈ left.take i then [] else allS n (begun ++ [g left i]) (wo left i)) = (List.range left.length).flatMap fun i => if i < left.length then (if g left i ∈ left.take i then [] else allS n (begun ++ [g left i]) (wo left i)) else [] := by
      refine flat_congr fun i hi => ?_
      rw [List.mem_range] at hi
      rw [if_pos hi]
    rw [e]
    rw [h] at h2 ⊢
    exact h2
/-- Those found up to a place. -/
def upTo (n : Nat) (begun left : List Int) (i : Nat) : List (List Int) := (List.range i).flatMap fun i => if g left i ∈ left.take i then [] else allS n (begun ++ [g left i]) (wo left i)
theorem upTo_succ (n : Nat) (begun left : List Int) (i : Nat) : upTo n begun left (i + 1) = upTo n begun left i ++ (if g left i ∈ left.take i then [] else allS n (begun ++ [g left i]) (wo left i)) := by
  unfold upTo
  rw [List.range_succ, List.flatMap_append]
  simp
theorem upTo_len {n : Nat} {begun left : List Int} (h : left.length = n + 1) {i : Nat} (hi : i ≤ left.length) : (upTo n begun left i).length ≤ fac (n + 1) := by
  have h1 : (upTo n begun left left.length).length ≤ fac (n + 1) := allS_len (n + 1) begun left h
  have h2 : ∀ d, (upTo n begun left i).length ≤ (upTo n begun left (i + d)).length := by
    intro d
    induction d with
    | zero => exact Nat.le_refl _
    | succ d ih =>
      rw [show i + (d + 1) = i + d + 1 by omega, upTo_succ, List.length_append]; omega
  have := h2 (left.length - i)
  rw [show i + (left.length - i) = left.length by omega] at this
  omega
/-! ### Sorted by counting -/
def srtR (l : List Int) (m : Nat) : List Int := (List.range m).flatMap fun (n : Nat) => l.filter fun x => decide (x = (n : Int))
theorem srtR_succ (l : List Int) (m : Nat) : srtR l (m + 1) = srtR l m ++ l.filter fun x => decide (x = (m : Int)) := by
  unfold srtR
  rw [List.range_succ, List.flatMap_append]
  simp
theorem srtR_mem {l : List Int} {x : Int} : ∀ {m : Nat}, x ∈ srtR l m ↔ x ∈ l ∧ 0 ≤ x ∧ x < m
  | 0 => by simp [srtR]
  | m + 1 => by
    rw [srtR_succ, List.mem_append, srtR_mem, List.mem_filter]
    simp only [decide_eq_true_eq]
    constructor
    · rintro (⟨h1, h2, h3⟩ | ⟨h1, rfl⟩)
      · exact ⟨h1, h2, by omega⟩
      · exact ⟨h1, by omega, by omega⟩
    · rintro ⟨h1, h2, h3⟩
      by_cases e : x = m
      · exact .inr ⟨h1, e⟩
      · exact .inl ⟨h1, h2, by omega⟩
theorem srtR_sorted (l : List Int) : ∀ m, (srtR l m).Pairwise (· ≤ ·)
  | 0 => by simp [srtR]
  | m + 1 => by
    rw [srtR_succ, List.pairwise_append]
    refine ⟨srtR_sorted l m, ?_, fun x hx y hy => ?_⟩
    · rw [List.pairwise_iff_getElem]
      intro i j hi hj _
      have h1 := (List.mem_filter.1 (List.getElem_mem hi)).2
      have h2 := (List.mem_filter.1 (List.getElem_mem hj)).2
      simp only [decide_eq_true_eq] at h1 h2
      omega
    · have h1 := srtR_mem.1 hx
      have h2 := (List.mem_filter.1 hy).2
      simp only [decide_eq_true_eq] at h2
      omega
theorem srtR_perm (l : List Int) : ∀ m : Nat, (srtR l m).Perm (l.filter fun x => decide (0 ≤ x ∧ x < (m : Int)))
  | 0 => by
    have : l.filter (fun x => decide (0 ≤ x ∧ x < ((0 : Nat) : Int))) = [] := by
      rw [List.filter_eq_nil_iff]; intro x _; simp only [decide_eq_true_eq]; omega
    rw [this]; simp [srtR]
  | m + 1 => by
    rw [srtR_succ]
    have h := List.filter_append_perm (fun x => decide (x < (m : Int))) (l.filter fun x => decide (0 ≤ x ∧ x < ((m + 1 : Nat) : Int)))
    refine List.Perm.trans ?_ h
    refine ((srtR_perm l m).append_right _).trans (List.Perm.of_eq ?_)
    rw [List.filter_filter, List.filter_filter]
    congr 1
    · refine List.filter_congr fun x _ => ?_
      rw [← Bool.decide_and]
      apply decide_eq_decide.2; omega
    · refine List.filter_congr fun x _ => ?_
      rw [← decide_not, ← Bool.decide_and]
      apply decide_eq_decide.2; omega
theorem srtR_all {l : List Int} (h : ∀ x ∈ l, 0 ≤ x ∧ x ≤ 60) : (srtR l 61).Perm l := by
  refine (srtR_perm l 61).trans (List.Perm.of_eq ?_)
  rw [List.filter_eq_self]
  intro x hx
  have := h x hx
  simp only [decide_eq_true_eq]; omega
theorem srtR_eq {l : List Int} (h : ∀ x ∈ l, 0 ≤ x ∧ x ≤ 60) : srtR l 61 = srt l := srt_eq (srtR_all h) (srtR_sorted l 61)
theorem srtR_len (l : List Int) (m : Nat) : (srtR l m).length ≤ l.length := by
  rw [(srtR_perm l m).length_eq]; exact List.length_filter_le _ _
theorem ls_lo {H : AH} {v : AV} {l : List Int} (h : Ls H v l) (h0 : 0 < l.length) {m : Nat} (hm : m ≤ l.length) : ∃ u, aSlice Try.prog 22 v (some (.int .i64 (m : Int))) none none = some u ∧ Ls H u (l.drop m) := by
  obtain ⟨r, off, ver, sz, full, rfl, hsz, hsub⟩ := h.sub
  obtain rfl := hsz (by intro e; rw [e] at h0; simp at h0)
  have h2 := hsub m l.length full hm (Nat.le_refl _)
  rw [show (l.drop m).take (l.length - m) = l.drop m from List.take_of_length_le (by simp)] at h2
  refine ⟨.slice r (off + m) (l.length - m) ver 1 full, ?_, h2⟩
  rw [slice_sl slz22]
  have hb : aBounds l.length (some (.int .i64 (m : Int))) none none = some (m, l.length, l.length) := by
    simp [aBounds, aBound, hm]
  simp [hb]
set_option maxRecDepth 100000 in
theorem sortedR_ac (v : AV) (l : List Int) (H : AH) (Q : AV → AH → Prop) (hlen : l.length ≤ 1000) (hv : Ls H v l) (h : ∀ w H', OwnF H.length H' w ((srtR l 61).map (.int .i64)) → Ext H H' → Q w H') : AC Try.prog 67 [v] H Q := by
  have hl := ls_len hv
  refine L_body 27 Try.func67 rfl rfl ?_
  refine L_reg [0] (fun K hK => ?_)
  simp
  apply hK; clear hK K
  refine L_reg [0, 3] (fun K hK => ?_)
  simp
  apply hK; clear hK K
  refine L_reg [0, 3, 4] (fun K hK => ?_)
  simp
  apply hK; clear hK K
  refine L_block (L_loopV [3, 4] (fun n vs H' => ∃ (m : Nat) (w : AV), n = 61 - m ∧ m ≤ 61 ∧ vs = [w, .int .i64 m] ∧ OwnF H.length H' w ((srtR l m).map (.int .i64)) ∧ Ext H H') _ [.slice none 0 0 0 1 false, .int .i64 0] rfl ⟨0, _, rfl, by omega, rfl, .nil _ _, .refl _⟩ ?_)
  rintro n _ H1 ⟨m, w, rfl, hm, rfl, hO, hE⟩
  refine L_reg [0, 3, 4, 7] (fun K hK => ?_)
  simp
  apply hK; clear hK K
  refine L_dec ((m : Int) ≤ 60) rfl (fun hlt => ?_) (fun hge => L_exit ?_)
  · refine L_block ?_
    refine L_reg [0, 3, 4, 5] (fun K hK => ?_)
    simp
    apply hK; clear hK K
    refine L_block (L_loopV [3, 5] (fun n vs H' => ∃ (i : Nat) (w : AV), n = l.length - i ∧ i ≤ l.length ∧ vs = [w, .int .i64 i] ∧ OwnF H.length H' w ((srtR l m ++ (l.take i).filter fun x => decide (x = (m : Int))).map (.int .i64)) ∧ Ext H H') _ [w, .int .i64 0] rfl ⟨0, w, rfl, by omega, rfl, by simpa using hO, hE⟩ ?_)
    clear hO hE
    rintro n _ H2 ⟨i, w2, rfl, hi, rfl, hO, hE⟩
    refine L_reg [0, 3, 4, 5, 13] (fun K hK => ?_)
    simp [hl]
    apply hK; clear hK K
    refine L_dec (i < l.length) (by simp) (fun hlt2 => ?_) (fun hge2 => L_exit ?_)
    · refine L_block ?_
      have hv2 := hv.ext hE
      obtain ⟨rz, pz, vz, hix, hld⟩ := ls_ix hv2 hlt2
      have htk : (l.take (i + 1)).filter (fun x => decide (x = (m : Int))) = (l.take i).filter (fun x => decide (x = (m : Int))) ++ if g l i = m then [g l i] else [] := by
        rw [List.take_add_one, List.getElem?_eq_getElem hlt2, Option.toList_some, List.filter_append, g_lt hlt2]
        congr 1
        by_cases e : l[i] = (m : Int)
        · rw [if_pos e, List.filter_cons_of_pos (by simpa using e)]; rfl
        · rw [if_neg e, List.filter_cons_of_neg (by simpa using e)]; rfl
      refine L_reg [0, 3, 4, 5, 21] (fun K hK => ?_)
      simp [hix, hld]
      apply hK; clear hK K
      refine L_dec (g l i = m) rfl (fun e => ?_) (fun e => ?_)
      · rw [if_pos e, e] at htk
        have hsl := srtR_len l m
        have hfl : ((l.take i).filter fun x => decide (x = (m : Int))).length ≤ l.length := Nat.le_trans (List.length_filter_le _ _) (by simp; omega)
        obtain ⟨v', H3, happ, hO3, hE3⟩ := ownF_append hE el22 el22 (x := .int .i64 (m : Int)) (m := 1) hO rfl (by rw [List.length_map, List.length_append]; omega)
        refine L_reg [0, 3, 4, 5] (fun K hK => ?_)
        simp [happ]
        apply hK; clear hK K
        refine L_reg [0, 3, 4, 5] (fun K hK => ?_)
        simp [wrap_i64 (a := (i : Int) + 1) (by omega)]
        apply hK; clear hK K
        refine ⟨l.length - (i + 1), [v', .int .i64 (i + 1 : Nat)], by omega, by simp, i + 1, v', rfl, by omega, rfl, ?_, hE3⟩
        rw [htk]
        simpa using hO3
      · rw [if_neg e, List.append_nil] at htk
        refine L_reg [0, 3, 4, 5] (fun K hK => ?_)
        simp [wrap_i64 (a := (i : Int) + 1) (by omega)]
        apply hK; clear hK K
        exact ⟨l.length - (i + 1), [w2, .int .i64 (i + 1 : Nat)], by omega, by simp, i + 1, w2, rfl, by omega, rfl, by rw [htk]; exact hO, hE⟩
    · rw [List.take_of_length_le (by omega), ← srtR_succ] at hO
      refine L_reg [0, 3, 4] (fun K hK => ?_)
      simp [wrap_i64 (a := (m : Int) + 1) (by omega)]
      apply hK; clear hK K
      exact ⟨61 - (m + 1), [w2, .int .i64 (m + 1 : Nat)], by omega, by simp, m + 1, w2, rfl, by omega, rfl, hO, hE⟩
  · have : m = 61 := by omega
    subst this
    refine L_reg [2] (fun K hK => ?_)
    simp
    apply hK; clear hK K
    exact L_ret ⟨.inr rfl, _, rfl, h w H1 hO hE⟩
set_option maxRecDepth 100000 in
theorem without_ac (v : AV) (l : List Int) (i : Nat) (H : AH) (Q : AV → AH → Prop) (hi : i < l.length) (hlen : l.length ≤ 1000) (hv : Ls H v l) (h : ∀ w H', OwnF H.length H' w ((wo l i).map (.int .i64)) → Ext H H' → Q w H') : AC Try.prog 108 [v, .int .i64 i] H Q := by
  refine L_body 15 Try.func108 rfl rfl ?_
  refine L_reg [0, 1] (fun K hK => ?_)
  simp
  apply hK; clear hK K
  obtain ⟨u1, hu1, hu2⟩ := ls_hi hv (by omega) (m := i) (by omega)
  obtain ⟨w1, hw1, hw2⟩ := ls_lo hv (by omega) (m := i + 1) (by omega)
  rw [show ((i + 1 : Nat) : Int) = (i : Int) + 1 by omega] at hw1
  have hB : Ext H (H ++ [AObj.row [] 0 0 false]) := .push _ _
  obtain ⟨a1, H2, p1, p2, p3⟩ := ownF_appendL hB el22 el22 (ownF_new H) (hu2.ext hB) (by simp; omega)
  obtain ⟨a2, H3, q1, q2, q3⟩ := ownF_appendL p3 el22 el22 p2 (hw2.ext p3) (by simp; omega)
  refine L_regU mixed [false, false, false, true, false, false, false, false, true, false] [4] (by kernel_rfl) (fun K hK => ?_)
  simp [hu1, hw1, wrap_i64 (a := (i : Int) + 1) (by omega), p1, q1, hB]
  refine ⟨fun _ => p3, fun _ => q3, ?_⟩
  apply hK; clear hK K
  exact L_ret ⟨.inr rfl, _, rfl, h a2 H3 (by simpa [wo] using q2) q3⟩
theorem smaller_ac (u v : AV) (a b : List Int) (H : AH) (Q : AV → AH → Prop) (hab : a.length = b.length) (hlen : a.length ≤ 1000000) (hu : Ls H u a) (hv : Ls H v b) (h : Q (.bool (decide (Arr.lx a b))) H) : AC Try.prog 98 [u, v] H Q := by
  have hl := ls_len hu
  refine L_body 30 Try.func98 rfl rfl ?_
  refine L_reg [0, 1] (fun K hK => ?_)
  simp
  apply hK; clear hK K
  refine L_reg [0, 1, 5] (fun K hK => ?_)
  simp
  apply hK; clear hK K
  refine L_block (L_loopV [5] (fun n vs H' => ∃ i : Nat, n = a.length - i ∧ i ≤ a.length ∧ (Arr.lx a b ↔ Arr.lx (a.drop i) (b.drop i)) ∧ vs = [.int .i64 i] ∧ H = H') _ [.int .i64 0] rfl ⟨0, rfl, by omega, by simp, rfl, rfl⟩ ?_)
  rintro n _ _ ⟨i, rfl, hi, hall, rfl, rfl⟩
  refine L_reg [0, 1, 5, 9] (fun K hK => ?_)
  simp [hl]
  apply hK; clear hK K
  refine L_dec (i < a.length) (by simp) (fun hlt => ?_) (fun hge => L_exit ?_)
  · refine L_block ?_
    obtain ⟨rz, pz, vz, hix, hld⟩ := ls_ix hu hlt
    obtain ⟨ry, py, vy, hiy, hldy⟩ := ls_ix hv (i := i) (by omega)
    rw [List.drop_eq_getElem_cons hlt, List.drop_eq_getElem_cons (by omega : i < b.length), ← g_lt hlt, ← g_lt (by omega : i < b.length)] at hall
    simp only [Arr.lx] at hall
    refine L_regT mixed [0, 1, 5, 20] (by kernel_rfl) (fun K hK => ?_)
    simp [hix, hld, hiy, hldy]
    apply hK; clear hK K
    by_cases c : g a i = g b i
    · refine L_false (by simp [c]) ?_
      refine L_reg [0, 1, 5] (fun K hK => ?_)
      simp [wrap_i64 (a := (i : Int) + 1) (by omega)]
      apply hK; clear hK K
      refine ⟨a.length - (i + 1), [.int .i64 (i + 1 : Nat)], by omega, by simp, i + 1, rfl, by omega, ?_, rfl, rfl⟩
      rw [hall]
      exact ⟨fun h => by rcases h with h | ⟨-, h⟩; omega; exact h, fun h => .inr ⟨c, h⟩⟩
    · refine L_true (by simp [c]) ?_
      refine L_regT mixed [4] (by kernel_rfl) (fun K hK => ?_)
      simp [hix, hld, hiy, hldy]
      apply hK; clear hK K
      have e : decide (Arr.lx a b) = decide (g a i < g b i) := by
        apply decide_eq_decide.2
        rw [hall]
        exact ⟨fun h => by rcases h with h | ⟨h, -⟩; exact h; exact absurd h c, fun h => .inl h⟩
      rw [e] at h
      exact L_ret ⟨.inr rfl, _, rfl, h⟩
  · refine L_reg [4] (fun K hK => ?_)
    simp
    apply hK; clear hK K
    have e : decide (Arr.lx a b) = false := by
      rw [decide_eq_false_iff_not, hall, List.drop_eq_nil_of_le (by omega)]
      simp [Arr.lx]
    rw [e] at h
    exact L_ret ⟨.inr rfl, _, rfl, h⟩
end Go.Proofs.Ytpfkioakjmpimaa

/- The reference: all arrangements. -/
namespace Go.Proofs.Ytpfkioakjmpimaa
open Go Go.Proofs.Ytpfkioakjmpimaa.AX

/-- A list read from a row that is not below B and not the row that is left out. -/
def LsBX (B : Nat) (ex : Option Nat) (H : AH) (v : AV) (l : List Int) : Prop :=
  ∃ rr off ver sz full, v = .slice rr off l.length ver sz full ∧ ∀ i (h : i < l.length), ∃ r', rr = some r' ∧ sz = 1 ∧ B ≤ r' ∧ ex ≠ some r' ∧ ld H r' (off + i) ver = some (.int .i64 l[i])
theorem LsBX.ls {B : Nat} {ex : Option Nat} {H : AH} {v : AV} {l : List Int} (h : LsBX B ex H v l) : Ls H v l := by
  obtain ⟨rr, off, ver, sz, full, e, h⟩ := h
  exact ⟨rr, off, ver, sz, full, e, fun i hi => by obtain ⟨r', a, b, -, -, c⟩ := h i hi; exact ⟨r', a, b, c⟩⟩
theorem LsBX.one {B : Nat} {ex : Option Nat} {H : AH} {v : AV} {l : List Int} (h : LsBX B ex H v l) : v.one = true := by
  obtain ⟨rr, off, ver, sz, full, rfl, -⟩ := h; rfl
theorem LsBX.keep {B C : Nat} {ex ex2 : Option Nat} {H H' : AH} {v : AV} {l : List Int} (h : LsBX B ex H v l) (hB : C ≤ B) (hk : ∀ j, B ≤ j → j < H.length → ex ≠ some j → H'[j]? = H[j]?) (he : ∀ j, B ≤ j → j < H.length → ex ≠ some j → ex2 ≠ some j) : LsBX C ex2 H' v l := by
  obtain ⟨rr, off, ver, sz, full, e, h⟩ := h
  refine ⟨rr, off, ver, sz, full, e, fun i hi => ?_⟩
  obtain ⟨r', a, b, c, d, f⟩ := h i hi
  have hlt := ld_lt f
  refine ⟨r', a, b, by omega, he r' c hlt d, ?_⟩
  have := hk r' c hlt d
  unfold ld at f ⊢
  rw [this]; exact f
/-- A list of lists of its own: no element lies in its row. -/
def LssB (B N : Nat) (H : AH) (v : AV) (L : List (List Int)) : Prop :=
  ∃ vs, OwnF N H v vs ∧ vs.length = L.length ∧ ∀ i (h : i < L.length), ∃ w, vs[i]? = some w ∧ LsBX B (rowOf v) H w L[i]
theorem LssB.nil (B N : Nat) (H : AH) : LssB B N H (.slice none 0 0 0 1 false) [] := ⟨[], .nil _ _, rfl, fun i h => by simp at h⟩
theorem LssB.ext {B N : Nat} {H H' : AH} {v : AV} {L : List (List Int)} (h : LssB B N H v L) (hE : Ext H H') : LssB B N H' v L := by
  obtain ⟨vs, h1, h2, h3⟩ := h
  refine ⟨vs, ownF_ext h1 hE, h2, fun i hi => ?_⟩
  obtain ⟨w, a, b⟩ := h3 i hi
  exact ⟨w, a, b.keep (Nat.le_refl _) (fun j _ hj _ => hE.2 j hj) fun j _ _ e => e⟩
/-- append(l, x...), whatever lies in x. -/
theorem own_appendL {P : Program} {H H0 : AH} (hE : Ext H0 H) {t u : TypeId} (ht : elT P t = true) {v x : AV} {l vs : List AV} (ho : OwnF H0.length H v l) (hsrc : aSrc P H u 1 x = some (vs.length, vs)) (hall : vs.all AV.one = true) (_hu : elT P u = true) (hlen : l.length + vs.length ≤ 16777216) :
    ∃ v' H', aAppend P H t u v x = some (v', H') ∧ OwnF H0.length H' v' (l ++ vs) ∧ Ext H0 H' ∧ (∀ j, j < H.length → rowOf v ≠ some j → H'[j]? = H[j]?) ∧ H.length ≤ H'.length ∧ ∀ j, rowOf v' = some j → rowOf v = some j ∨ (rowOf v = none ∧ j = H.length) := by
  obtain ⟨e, I, h1, h2, h3, h4, -⟩ := elT_some ht
  have hle := hE.1
  unfold aAppend
  by_cases hne : vs.length = 0
  · have hvs : vs = [] := List.eq_nil_of_length_eq_zero hne
    subst hvs
    refine ⟨v, H, ?_, by simpa using ho, hE, fun j _ _ => rfl, Nat.le_refl _, fun j hj => .inl hj⟩
    rcases ho with ⟨-, rfl⟩ | ⟨r, ver, stale, hr0, rfl, hr⟩ <;> simp at hsrc <;> simp [h1, h2, h3, h4, hsrc]
  · generalize hk : vs.length = k at *
    rcases ho with ⟨h0, rfl⟩ | ⟨r, ver, stale, hr0, rfl, hr⟩
    · subst h0
      have hk2 : k ≤ 16777216 := by simpa using hlen
      refine ⟨.slice (some H.length) 0 k 0 1 false, H ++ [.row vs 0 0 false], ?_, .inr ⟨H.length, 0, 0, by omega, by simp [hk], by simp⟩, hE.trans (.push _ _), fun j hj _ => List.getElem?_append_left hj, by simp, fun j hj => .inr ⟨rfl, by simp [rowOf] at hj; exact hj.symm⟩⟩
      simp only [h1, h2, h3, h4, hsrc]
      simp [hk, hne, hk2]
      exact fun x hx => List.all_eq_true.1 hall x hx
    · have hlt : r < H.length := (List.getElem?_eq_some_iff.1 hr).1
      refine ⟨.slice (some r) 0 (l.length + k) (ver + 1) 1 false, H.set r (AObj.row (l ++ vs) (ver + 1) (min stale l.length) false), ?_, .inr ⟨r, ver + 1, min stale l.length, hr0, by simp [hk], get_set hr⟩, hE.set _ hr0, fun j _ hne => List.getElem?_set_ne (fun e => hne (by rw [e]; rfl)), by simp, fun j hj => .inl hj⟩
      have hin : inPlace H r 0 l.length k ver 1 vs = none := by simp [inPlace, hr]; omega
      have hgr : grow H r 0 l.length ver vs = some (H.set r (AObj.row (l ++ vs) (ver + 1) (min stale l.length) false), ver + 1) := by
        simp [grow, hr]
      simp only [h1, h2, h3, h4, hsrc]
      simp only [Nat.zero_lt_one, true_and, if_true, Option.bind_some, hall, hk, Nat.mul_one, beq_self_eq_true, Bool.and_true, hne, if_false, hlen, Bool.false_eq_true, hin, hgr, Option.map_some]
theorem known_one {x : AV} (h : x.one = true) : known (some x) = some x := by
  cases x <;> simp [AV.one] at h <;> rfl
theorem takeKnown_one : ∀ {vs : List AV}, vs.all AV.one = true → takeKnown vs.length vs = some vs
  | [], _ => rfl
  | x :: vs, h => by
    simp only [List.all_cons, Bool.and_eq_true] at h
    have h1 := takeKnown_one h.2
    have h2 := known_one h.1
    cases x <;> simp_all [takeKnown, AV.one]
theorem src_own {P : Program} {H : AH} {u : TypeId} {N : Nat} {x : AV} {vs : List AV} (hu : elT P u = true) (ho : OwnF N H x vs) (hall : vs.all AV.one = true) : aSrc P H u 1 x = some (vs.length, vs) := by
  obtain ⟨e, I, h1, h2, h3, h4, -⟩ := elT_some hu
  rcases ho with ⟨rfl, rfl⟩ | ⟨r, ver, st, -, rfl, hr⟩
  · simp [aSrc, h1]
  · cases vs with
    | nil => simp [aSrc, h1]
    | cons y vs =>
      have hk := takeKnown_one hall
      have hl : ldn H r ver (y :: vs).length 0 = some (y :: vs) := by
        simp only [List.length_cons] at hk
        simp [ldn, hr, hk]
      simp only [List.length_cons] at hl
      simp [aSrc, h1, hl]
theorem lssB_append {H0 H : AH} {B B2 M : Nat} (hE : Ext H0 H) {v x : AV} {L L2 : List (List Int)} (ho : LssB B H0.length H v L) (hx : LssB B2 M H x L2) (hBB : B ≤ B2) (hsep : ∀ r, rowOf v = some r → r < B2) (hlen : L.length + L2.length ≤ 16777216) :
    ∃ v' H', aAppend Try.prog H 62 62 v x = some (v', H') ∧ LssB B H0.length H' v' (L ++ L2) ∧ Ext H0 H' := by
  obtain ⟨vs, o1, o2, o3⟩ := ho
  obtain ⟨ws, x1, x2, x3⟩ := hx
  have hall : ws.all AV.one = true := by
    rw [List.all_eq_true]
    intro w hw
    obtain ⟨i, hi, e⟩ := List.getElem_of_mem hw
    obtain ⟨w', a, b⟩ := x3 i (by omega)
    rw [List.getElem?_eq_getElem hi, e] at a
    cases a
    exact b.one
  obtain ⟨v', H', a1, a2, a3, a4, a5, a6⟩ := own_appendL hE el62 o1 (src_own el62 x1 hall) hall el62 (by omega)
  refine ⟨v', H', a1, ⟨vs ++ ws, a2, by simp; omega, fun i hi => ?_⟩, a3⟩
  have hex : ∀ j, j < H.length → rowOf v ≠ some j → rowOf v' ≠ some j := fun j hj hne e => by
    rcases a6 j e with h | ⟨-, h⟩
    · exact hne h
    · omega
  by_cases hc : i < L.length
  · obtain ⟨w, b1, b2⟩ := o3 i hc
    refine ⟨w, by rw [List.getElem?_append_left (by omega)]; exact b1, ?_⟩
    rw [List.getElem_append_left hc]
    exact b2.keep (Nat.le_refl _) (fun j _ hj he => a4 j hj he) fun j _ hj he => hex j hj he
  · obtain ⟨w, b1, b2⟩ := x3 (i - L.length) (by simp at hi; omega)
    refine ⟨w, by rw [List.getElem?_append_right (by omega), o2]; exact b1, ?_⟩
    rw [List.getElem_append_right (by omega)]
    have hne : ∀ j, B2 ≤ j → rowOf v ≠ some j := fun j hj e => by have := hsep j e; omega
    exact b2.keep hBB (fun j hj hl _ => a4 j hl (hne j hj)) fun j hj hl _ => hex j hl (hne j hj)
theorem ownF_lsB {N B : Nat} {H : AH} {v : AV} {l : List Int} (h : OwnF N H v (l.map (.int .i64))) (hB : B ≤ N) : LsBX B none H v l := by
  rcases h with ⟨e, rfl⟩ | ⟨r, ver, st, h1, rfl, h3⟩
  · have : l = [] := by simpa using e
    subst this
    exact ⟨none, 0, 0, 1, false, rfl, fun i h => by simp at h⟩
  · refine ⟨some r, 0, ver, 1, false, by simp, fun i hi => ⟨r, rfl, rfl, by omega, by simp, ?_⟩⟩
    rw [ld_row h3]
    simp [hi]
theorem row62 (H : AH) (v : AV) (h : v.one = true) : rowV Try.prog 62 1 [(0, v)] H = some (some (.slice (some H.length) 0 1 0 1 false), H ++ [.row [v] 0 1 false]) := row1 el62 h (by cases v <;> simp [AV.one] at h <;> rfl)
set_option maxRecDepth 100000 in
theorem allR_ac : ∀ (n : Nat) (begun left : List Int) (B : Nat) (u v : AV) (H : AH) (Q : AV → AH → Prop), left.length = n → n + begun.length ≤ 7 → LsBX B none H u begun → Ls H v left → B ≤ H.length →
    (∀ w H', LssB B H.length H' w (allS n begun left) → Ext H H' → Q w H') → AC Try.prog 97 [u, v] H Q := by
  intro n
  induction n with
  | zero =>
    intro begun left B u v H Q hl hn hu hv hB h
    have hvl := ls_len hv
    refine L_body 43 Try.func97 rfl rfl ?_
    refine L_reg [0, 1] (fun K hK => ?_)
    simp
    apply hK; clear hK K
    refine L_reg [0, 1, 9] (fun K hK => ?_)
    simp [hvl, hl]
    apply hK; clear hK K
    refine L_true rfl ?_
    refine L_reg [4] (fun K hK => ?_)
    simp [row62 H u hu.one]
    apply hK; clear hK K
    refine L_ret ⟨.inr rfl, _, rfl, h _ _ ⟨[u], .inr ⟨H.length, 0, 1, Nat.le_refl _, rfl, by simp⟩, rfl, fun i hi => ?_⟩ (.push _ _)⟩
    have hi0 : i = 0 := by simp [allS] at hi; omega
    subst hi0
    exact ⟨u, rfl, hu.keep (Nat.le_refl _) (fun j _ hj _ => List.getElem?_append_left hj) fun j _ hj _ => by simp [rowOf]; omega⟩
  | succ n ih =>
    intro begun left B u v H Q hl hn hu hv hB h
    have hvl := ls_len hv
    have hfac : fac (n + 1) ≤ 5040 := by
      have : n + 1 ≤ 7 := by omega
      have hh : ∀ k, k ≤ 7 → fac k ≤ 5040 := by decide
      exact hh _ this
    refine L_body 43 Try.func97 rfl rfl ?_
    refine L_reg [0, 1] (fun K hK => ?_)
    simp
    apply hK; clear hK K
    refine L_reg [0, 1, 9] (fun K hK => ?_)
    simp [hvl, hl]
    apply hK; clear hK K
    refine L_false (by simp; omega) ?_
    refine L_reg [0, 1, 5] (fun K hK => ?_)
    simp
    apply hK; clear hK K
    refine L_reg [0, 1, 5, 6] (fun K hK => ?_)
    simp
    apply hK; clear hK K
    refine L_block (L_loopV [5, 6] (fun k vs H' => ∃ (i : Nat) (w : AV), k = left.length - i ∧ i ≤ left.length ∧ vs = [w, .int .i64 i] ∧ LssB B H.length H' w (upTo n begun left i) ∧ Ext H H') _ [.slice none 0 0 0 1 false, .int .i64 0] rfl ⟨0, _, rfl, by omega, rfl, .nil _ _ _, .refl _⟩ ?_)
    rintro k _ H1 ⟨i, w, rfl, hi, rfl, hO, hE⟩
    refine L_reg [0, 1, 5, 6, 15] (fun K hK => ?_)
    simp [hvl]
    apply hK; clear hK K
    refine L_dec (i < left.length) (by simp) (fun hlt => ?_) (fun hge => L_exit ?_)
    · refine L_block ?_
      have hv1 := hv.ext hE
      have hu1 := hu.ls.ext hE
      obtain ⟨rz, pz, vz, hix, hld⟩ := ls_ix hv1 hlt
      obtain ⟨y1, hy1, hy2⟩ := ls_hi hv1 (by omega) (m := i) (by omega)
      have hul := upTo_len (begun := begun) hl hi
      have hul2 := upTo_len (begun := begun) hl (i := i + 1) (by omega)
      have hup := upTo_succ n begun left i
      rw [hup, List.length_append] at hul2
      refine L_regT mixed [0, 1, 5, 6, 26] (by kernel_rfl) (fun K hK => ?_)
      simp [hy1, hix, hld, okFn_low]
      refine exC_mk (fun Q hQ => has_ac y1 (left.take i) (g left i) H1 Q (by simp; omega) hy2 hQ) ?_
      simp
      apply hK; clear hK K
      by_cases hc : g left i ∈ left.take i
      · rw [if_pos hc, List.append_nil] at hup
        refine L_false (by simp [hc]) ?_
        refine L_reg [0, 1, 5, 6] (fun K hK => ?_)
        simp [wrap_i64 (a := (i : Int) + 1) (by omega)]
        apply hK; clear hK K
        exact ⟨left.length - (i + 1), [w, .int .i64 (i + 1 : Nat)], by omega, by simp, i + 1, w, rfl, by omega, rfl, by rw [hup]; exact hO, hE⟩
      · rw [if_neg hc] at hup hul2
        refine L_true (by simp [hc]) ?_
        generalize hx : g left i = x at *
        have hwl : ∀ r, rowOf w = some r → r < H1.length := fun r hr => by
          obtain ⟨vs, o1, -⟩ := hO
          exact (ownF_rowlt o1 hr).2
        have tail : ∀ u2 H3, OwnF H1.length H3 u2 ((begun ++ [x]).map (.int .i64)) → Ext H1 H3 → AC Try.prog 108 [v, .int .i64 i] H3 fun z H4 => AC Try.prog 97 [u2, z] H4 fun q H5 => ∃ v' H6, aAppend Try.prog H5 62 62 w q = some (v', H6) ∧ LssB B H.length H6 v' (upTo n begun left (i + 1)) ∧ Ext H H6 := by
          intro u2 H3 hu2 hE3
          refine without_ac v left i H3 _ hlt (by omega) (hv1.ext hE3) (fun z H4 hz hE4 => ?_)
          have hE14 := hE3.trans hE4
          refine ih (begun ++ [x]) (wo left i) H1.length u2 z H4 _ (by rw [wo_len hlt]; omega) (by simp; omega) (ownF_lsB (ownF_ext hu2 hE4) (Nat.le_refl _)) hz.own.ls hE14.1 (fun q H5 hq hE5 => ?_)
          have hE15 := hE14.trans hE5
          obtain ⟨v', H6, e1, e2, e3⟩ := lssB_append (hE.trans hE15) (hO.ext hE15) hq (by have := hE.1; omega) hwl (by omega)
          exact ⟨v', H6, e1, by rw [hup]; exact e2, e3⟩
        refine L_regR mixed (fun K hK => ?_)
        have hfin : ∀ v' H6, LssB B H.length H6 v' (upTo n begun left (i + 1)) → Ext H H6 → K .normal [(0, u), (1, v), (5, v'), (6, .int .i64 i)] H6 := fun v' H6 e2 e3 => by
          apply hK; clear hK K
          refine L_reg [0, 1, 5, 6] (fun K hK => ?_)
          simp [wrap_i64 (a := (i : Int) + 1) (by omega)]
          apply hK; clear hK K
          exact ⟨left.length - (i + 1), [v', .int .i64 (i + 1 : Nat)], by omega, by simp, i + 1, v', rfl, by omega, rfl, e2, e3⟩
        refine AWR_perm [0, 10, 11, 1, 2, 3, 4, 5, 6, 7, 8, 9, 12, 13, 14, 15] (by kernel_rfl) ?_
        refine AWR_pin 3 (by kernel_rfl) ?_
        refine AWR_perm [1, 0, 2, 3, 4, 5, 6, 7, 8, 9, 10, 11, 12, 13, 14, 15] (by kernel_rfl) ?_
        refine AWR_pin 3 (by kernel_rfl) ?_
        refine AWR_perm [2, 0, 1, 3, 4, 5, 6, 7, 8, 9, 10, 11, 12, 13, 14, 15] (by kernel_rfl) ?_
        refine AWR_pin 3 (by kernel_rfl) ?_
        refine AWR_pair (x := 3) (y := 10) (ord := [0, 1, 2, 6, 7, 8, 9, 10, 3, 4, 5, 11, 12, 13, 14, 15]) (by kernel_rfl) ?_ ?_
        · refine AWR_pair (x := 5) (y := 10) (ord := [0, 1, 2, 3, 4, 6, 7, 8, 9, 10, 5, 11, 12, 13, 14, 15]) (by kernel_rfl) ?_ ?_
          · refine AWR_UM [0, 1, 5, 6] [false, false, false, false, false, false, false, false, false, true, false] rfl (by kernel_rfl) ?_
            have hB0 : Ext H1 (H1 ++ [AObj.row [] 0 0 false]) := .push _ _
            obtain ⟨u1, H2, p1, p2, p3⟩ := ownF_appendL hB0 el22 el22 (ownF_new H1) (hu1.ext hB0) (by simp; omega)
            have hB2 : Ext H2 (H2 ++ [AObj.row [AV.int .i64 x] 0 1 false]) := .push _ _
            have hs : Ls (H2 ++ [AObj.row [AV.int .i64 x] 0 1 false]) (.slice (some H2.length) 0 1 0 1 false) [x] := Ls.row (ro := false) (l := [x]) (s := 1) (by simp) false
            obtain ⟨u2, H3, q1, q2, q3⟩ := ownF_appendL (p3.trans hB2) el22 el22 (ownF_ext p2 hB2) hs (by simp; omega)
            have hn1 := p3.trans hB2
            simp [pinL, permL, addE, hix, hld, p1, q1, okFn_low, hB0, hn1]
            refine ⟨fun _ => p3, ?_⟩
            refine (tail u2 H3 (by simpa using q2) q3).mono fun z H4 h4 => ?_
            simp [okFn_low]
            refine h4.mono ?_
            rintro q H5 ⟨v', H6, e1, e2, e3⟩
            simp [e1]
            exact hfin v' H6 e2 e3
          · refine AWR_UM [0, 1, 5, 6] [false, false, false, false, false, false, false, false, true, false, false] rfl (by kernel_rfl) ?_
            have hB0 : Ext H1 (H1 ++ [AObj.row [] 0 0 false]) := .push _ _
            have hB1 : Ext (H1 ++ [AObj.row [] 0 0 false]) (H1 ++ [AObj.row [] 0 0 false, AObj.row [AV.int .i64 x] 0 1 false]) := by
              have := Ext.push (H1 ++ [AObj.row [] 0 0 false]) [AObj.row [AV.int .i64 x] 0 1 false]
              rwa [List.append_assoc] at this
            have hn1 := hB0.trans hB1
            have hO2 := ownF_ext (ownF_new H1) hB1
            have hx1 : Ls (H1 ++ [AObj.row [] 0 0 false, AObj.row [AV.int .i64 x] 0 1 false]) u begun := hu1.ext hn1
            obtain ⟨u1, H2, p1, p2, p3, p4, p5, -⟩ := own_appendL hn1 el22 hO2 (by have := src_ls el22 hx1; simpa using this) (all_ints begun) el22 (by simp; omega)
            have hs : Ls H2 (.slice (some (H1.length + 1)) 0 1 0 1 false) [x] := by
              refine Ls.row (ro := false) (l := [x]) (s := 1) ?_ false
              rw [p4 (H1.length + 1) (by simp) (by simp [rowOf])]
              simp
            obtain ⟨u2, H3, q1, q2, q3⟩ := ownF_appendL (l := begun) p3 el22 el22 (by simpa using p2) hs (by simp; omega)
            simp [pinL, permL, addE, hix, hld, p1, q1, okFn_low, hB0, hn1]
            refine ⟨fun _ => p3, ?_⟩
            refine (tail u2 H3 (by simpa using q2) q3).mono fun z H4 h4 => ?_
            simp [okFn_low]
            refine h4.mono ?_
            rintro q H5 ⟨v', H6, e1, e2, e3⟩
            simp [e1]
            exact hfin v' H6 e2 e3
        · refine AWR_UM [0, 1, 5, 6] [false, false, false, false, false, false, true, false, false, false, false] rfl (by kernel_rfl) ?_
          have hB0 : Ext H1 (H1 ++ [AObj.row [AV.int .i64 x] 0 1 false]) := .push _ _
          have hB1 : Ext (H1 ++ [AObj.row [AV.int .i64 x] 0 1 false]) (H1 ++ [AObj.row [AV.int .i64 x] 0 1 false, AObj.row [] 0 0 false]) := by
            have := Ext.push (H1 ++ [AObj.row [AV.int .i64 x] 0 1 false]) [AObj.row [] 0 0 false]
            rwa [List.append_assoc] at this
          have hn1 := hB0.trans hB1
          have hO2 : OwnF H1.length (H1 ++ [AObj.row [AV.int .i64 x] 0 1 false, AObj.row [] 0 0 false]) (.slice (some (H1.length + 1)) 0 0 0 1 false) (([] : List Int).map (.int .i64)) := .inr ⟨H1.length + 1, 0, 0, by omega, rfl, by simp⟩
          have hs : Ls (H1 ++ [AObj.row [AV.int .i64 x] 0 1 false]) (.slice (some H1.length) 0 1 0 1 false) [x] := Ls.row (ro := false) (l := [x]) (s := 1) (by simp) false
          have hx1 : Ls (H1 ++ [AObj.row [AV.int .i64 x] 0 1 false, AObj.row [] 0 0 false]) u begun := hu1.ext hn1
          obtain ⟨u1, H2, p1, p2, p3, p4, p5, -⟩ := own_appendL hn1 el22 hO2 (by have := src_ls el22 hx1; simpa using this) (all_ints begun) el22 (by simp; omega)
          have hs2 : Ls H2 (.slice (some H1.length) 0 1 0 1 false) [x] := ls_keep (hs.ext hB1) fun j hj hj2 => p4 j hj (by simp [rowOf] at hj2 ⊢; omega)
          obtain ⟨u2, H3, q1, q2, q3⟩ := ownF_appendL (l := begun) p3 el22 el22 (by simpa using p2) hs2 (by simp; omega)
          simp [pinL, permL, addE, hix, hld, p1, q1, okFn_low, hB0, hn1]
          refine ⟨fun _ => p3, ?_⟩
          refine (tail u2 H3 (by simpa using q2) q3).mono fun z H4 h4 => ?_
          simp [okFn_low]
          refine h4.mono ?_
          rintro q H5 ⟨v', H6, e1, e2, e3⟩
          simp [e1]
          exact hfin v' H6 e2 e3
    · have hil : i = left.length := by omega
      subst hil
      refine L_reg [4] (fun K hK => ?_)
      simp
      apply hK; clear hK K
      exact L_ret ⟨.inr rfl, _, rfl, h w H1 hO hE⟩
end Go.Proofs.Ytpfkioakjmpimaa

/- Boxes, as the reference makes them. -/
namespace Go.Proofs.Ytpfkioakjmpimaa
open Go Go.Proofs.Ytpfkioakjmpimaa.AX

/-- The best of some arrangements. -/
def BestOf (c : List Int → Int) (L : List (List Int)) (b : List Int) : Prop := b ∈ L ∧ ∀ p ∈ L, Arr.bet c b p
theorem BestOf.step {c : List Int → Int} {L : List (List Int)} {b x : List Int} (h : BestOf c L b) (hl : x.length = b.length) : BestOf c (L ++ [x]) (if c x < c b ∨ (c x = c b ∧ Arr.lx x b) then x else b) := by
  split
  · rename_i hc
    have hx : Arr.bet c x b := by
      rcases hc with hc | ⟨h1, h2⟩
      · exact .inl hc
      · exact .inr ⟨h1, .inr h2⟩
    refine ⟨by simp, fun p hp => ?_⟩
    rcases List.mem_append.1 hp with hp | hp
    · exact hx.trans (h.2 p hp)
    · rw [List.mem_singleton.1 hp]; exact .refl _ _
  · rename_i hc
    refine ⟨by simp [h.1], fun p hp => ?_⟩
    rcases List.mem_append.1 hp with hp | hp
    · exact h.2 p hp
    · rw [List.mem_singleton.1 hp]
      rcases Int.lt_trichotomy (c x) (c b) with e | e | e
      · exact absurd (.inl e) hc
      · rcases Arr.lx_tri hl with k | k | k
        · exact absurd (.inr ⟨e, k⟩) hc
        · exact .inr ⟨e.symm, .inl k.symm⟩
        · exact .inr ⟨e.symm, .inr k⟩
      · exact .inl e
theorem BestOf.all {c : List Int → Int} {l b : List Int} (h : BestOf c (allS l.length [] l) b) : b = Arr.bestS c l := by
  refine Arr.IsBest.eq ⟨?_, fun p hp => h.2 p ((mem_allS l.length [] l p rfl).2 ⟨p, hp, rfl⟩)⟩
  obtain ⟨q, hq, e⟩ := (mem_allS l.length [] l b rfl).1 h.1
  rw [e]; exact hq
theorem lssB_len {B N : Nat} {H : AH} {v : AV} {L : List (List Int)} (h : LssB B N H v L) : aLen Try.prog 62 v = some (.int .i64 L.length) := by
  obtain ⟨vs, o1, o2, -⟩ := h
  obtain ⟨r, ver, rfl⟩ := o1.len
  rw [o2]
  exact len62 ..
theorem lssB_ix {B N : Nat} {H : AH} {v : AV} {L : List (List Int)} (h : LssB B N H v L) {i : Nat} (hi : i < L.length) : ∃ r p ver w, (∀ k, aIndexAddr Try.prog 62 v (.int k (i : Int)) = some (.ptr r p ver)) ∧ ld H r p ver = some w ∧ Ls H w L[i] := by
  obtain ⟨vs, o1, o2, o3⟩ := h
  obtain ⟨w, a, b⟩ := o3 i hi
  rcases o1 with ⟨rfl, -⟩ | ⟨r, ver, st, -, rfl, hr⟩
  · simp at o2; omega
  · refine ⟨r, i, ver, w, fun k => by simp [o2, hi], ?_, b.ls⟩
    rw [ld_row hr, a, known_one b.one]
set_option maxRecDepth 100000 in
theorem boxR_ac (v : AV) (l : List Int) (r : Bool) (H : AH) (Q : AV → AH → Prop) (h1 : 1 ≤ l.length) (hlen : l.length ≤ 7) (hb : Bd 1000 l) (hv : Ls H v l)
    (h : ∀ w H', Ls H' w (boxS r l) → Ext H H' → Q w H') : AC Try.prog 69 [v, .bool r] H Q := by
  refine L_body 51 Try.func69 rfl rfl ?_
  refine L_reg [0, 1] (fun K hK => ?_)
  simp
  apply hK; clear hK K
  refine L_reg [1, 5] (fun K hK => ?_)
  simp [okFn_low]
  refine allR_ac l.length [] l 0 (.slice none 0 0 0 1 false) v _ _ rfl (by simpa using hlen) ⟨none, 0, 0, 1, false, rfl, fun i h => by simp at h⟩ hv (Nat.zero_le _) (fun w H1 hO hE => ?_)
  simp
  apply hK; clear hK K
  have hL := fun p => mem_allS l.length [] l p rfl
  have hall : ∀ b, BestOf (stepC r) (allS l.length [] l) b → b = boxS r l := fun b hb => hb.all
  have hmem : l ∈ allS l.length [] l := (hL l).2 ⟨l, .refl _, rfl⟩
  have hLn : (allS l.length [] l).length ≤ 5040 := by
    have hh : ∀ k, k ≤ 7 → fac k ≤ 5040 := by decide
    exact Nat.le_trans (allS_len l.length [] l rfl) (hh _ hlen)
  have hperm : ∀ p ∈ allS l.length [] l, p.length = l.length ∧ Bd 1000 p := fun p hp => by
    obtain ⟨q, hq, rfl⟩ := (hL p).1 hp
    exact ⟨by simpa using hq.length_eq, by simpa using hb.perm hq⟩
  generalize allS l.length [] l = L at *
  have hwl := lssB_len hO
  have hL0 : 0 < L.length := List.length_pos_of_mem hmem
  obtain ⟨r0, p0, ver0, b0, hix0, hld0, hb0⟩ := lssB_ix hO hL0
  have hix0' : ∀ k, aIndexAddr Try.prog 62 w (.int k 0) = some (.ptr r0 p0 ver0) := hix0
  refine L_reg [1, 5, 6] (fun K hK => ?_)
  simp [hix0', hld0]
  apply hK; clear hK K
  refine L_reg [1, 5, 6, 7] (fun K hK => ?_)
  simp
  apply hK; clear hK K
  refine L_block (L_loopK [1, 5, 6, 7] [6, 7] (fun n vs H' => ∃ (i : Nat) (u : AV) (b : List Int), n = L.length - i ∧ 1 ≤ i ∧ i ≤ L.length ∧ BestOf (stepC r) (L.take i) b ∧ Ls H1 u b ∧ vs = [u, .int .i64 i] ∧ H1 = H') _ [b0, .int .i64 1] rfl rfl ⟨1, b0, L[0], rfl, by omega, by omega, ?_, hb0, rfl, rfl⟩ ?_)
  · have e : L.take 1 = [L[0]] := by rw [List.take_add_one, List.getElem?_eq_getElem hL0]; rfl
    rw [e]
    exact ⟨by simp, fun p hp => by rw [List.mem_singleton.1 hp]; exact .refl _ _⟩
  rintro n _ _ ⟨i, u, b, rfl, hi1, hi, hB, hu, rfl, rfl⟩
  have hbm : b ∈ L := List.mem_of_mem_take hB.1
  have hbp := hperm b hbm
  refine L_reg [1, 5, 6, 7, 18] (fun K hK => ?_)
  simp [hwl]
  apply hK; clear hK K
  refine L_dec (i < L.length) rfl (fun hlt => ?_) (fun hge => L_exit ?_)
  · refine L_block ?_
    have hlt' : i < L.length := by omega
    obtain ⟨rz, pz, vz, x, hix, hld, hx⟩ := lssB_ix hO hlt'
    have hxp := hperm L[i] (List.getElem_mem hlt')
    have hS := hB.step (x := L[i]) (by rw [hxp.1, hbp.1])
    have htk : L.take (i + 1) = L.take i ++ [L[i]] := by rw [List.take_add_one, List.getElem?_eq_getElem hlt']; rfl
    rw [← htk] at hS
    have hnext : i + 1 ≤ L.length := hlt'
    generalize L[i] = y at *
    refine L_reg [1, 5, 6, 7, 8, 9] (fun K hK => ?_)
    simp [okFn_low, hix, hld]
    refine greatestR_ac x y r _ _ (by omega) hxp.2 hx ?_
    simp [okFn_low]
    refine greatestR_ac u b r _ _ (by omega) hbp.2 hu ?_
    simp
    apply hK; clear hK K
    rcases Int.lt_trichotomy (stepC r y) (stepC r b) with e | e | e
    · rw [if_pos (.inl e)] at hS
      refine L_reg [1, 5, 6, 7, 45] (fun K hK => ?_)
      simp [e, pickV]
      apply hK; clear hK K
      refine L_true rfl ?_
      refine L_reg [1, 5, 6, 7] (fun K hK => ?_)
      simp [hix, hld]
      apply hK; clear hK K
      refine L_reg [1, 5, 6, 7] (fun K hK => ?_)
      simp [wrap_i64 (a := (i : Int) + 1) (by omega)]
      apply hK; clear hK K
      exact ⟨L.length - (i + 1), [x, .int .i64 (i + 1 : Nat)], by omega, by simp, i + 1, x, y, rfl, by omega, hnext, hS, hx, rfl, rfl⟩
    · have e2 : ¬ stepC r y < stepC r b := by omega
      refine L_reg [1, 5, 6, 7, 45] (fun K hK => ?_)
      simp [okFn_low, e, hix, hld]
      refine smaller_ac x u y b _ _ (by rw [hxp.1, hbp.1]) (by omega) hx hu ?_
      simp [pickV]
      apply hK; clear hK K
      refine L_split rfl (fun ht => ?_) (fun hf => ?_)
      · rw [if_pos (.inr ⟨e, by simpa using ht⟩)] at hS
        refine L_reg [1, 5, 6, 7] (fun K hK => ?_)
        simp [hix, hld]
        apply hK; clear hK K
        refine L_reg [1, 5, 6, 7] (fun K hK => ?_)
        simp [wrap_i64 (a := (i : Int) + 1) (by omega)]
        apply hK; clear hK K
        exact ⟨L.length - (i + 1), [x, .int .i64 (i + 1 : Nat)], by omega, by simp, i + 1, x, y, rfl, by omega, hnext, hS, hx, rfl, rfl⟩
      · rw [if_neg (fun h => by
          rcases h with h | ⟨-, h⟩
          · exact e2 h
          · simp at hf; exact hf h)] at hS
        refine L_reg [1, 5, 6, 7] (fun K hK => ?_)
        simp [wrap_i64 (a := (i : Int) + 1) (by omega)]
        apply hK; clear hK K
        exact ⟨L.length - (i + 1), [u, .int .i64 (i + 1 : Nat)], by omega, by simp, i + 1, u, b, rfl, by omega, hnext, hS, hu, rfl, rfl⟩
    · have e2 : ¬ stepC r y < stepC r b := by omega
      have e3 : ¬ stepC r y = stepC r b := by omega
      have e3b : (stepC r y == stepC r b) = false := by simpa using e3
      rw [if_neg (fun h => by rcases h with h | ⟨h, -⟩ <;> omega)] at hS
      refine L_reg [1, 5, 6, 7, 45] (fun K hK => ?_)
      simp [e2, e3b, pickV]
      apply hK; clear hK K
      refine L_false rfl ?_
      refine L_reg [1, 5, 6, 7] (fun K hK => ?_)
      simp [wrap_i64 (a := (i : Int) + 1) (by omega)]
      apply hK; clear hK K
      exact ⟨L.length - (i + 1), [u, .int .i64 (i + 1 : Nat)], by omega, by simp, i + 1, u, b, rfl, by omega, hnext, hS, hu, rfl, rfl⟩
  · rw [List.take_of_length_le (by omega)] at hB
    have := hall b hB
    subst this
    refine L_reg [4] (fun K hK => ?_)
    simp
    apply hK; clear hK K
    exact L_ret ⟨.inr rfl, _, rfl, h u H1 hu hE⟩
end Go.Proofs.Ytpfkioakjmpimaa
