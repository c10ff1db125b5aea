/- Bales in rows and columns, their neighbours, and what beetles reach. -/
import Derived.Test.YtfbpgnjeafadmaaBase
namespace Go.Proofs.Ytfbpgnjeafadmaa.Fl
open Go Go.Proofs.Ytfbpgnjeafadmaa Go.Proofs.Ytfbpgnjeafadmaa.AX

def nbs (r c b : Nat) : List Nat :=
  (if 0 < b / c then [b - c] else []) ++ (if b / c + 1 < r then [b + c] else []) ++ (if 0 < b % c then [b - 1] else []) ++ (if b % c + 1 < c then [b + 1] else [])
def bes (r c : Nat) (S : Nat → Bool) (b : Nat) : Nat := (nbs r c b).countP S
def nxt (r c k : Nat) (O S : Nat → Bool) (b : Nat) : Bool := S b || (decide (b < r * c) && (O b && decide (k ≤ bes r c S b)))
def D (r c k : Nat) (O S : Nat → Bool) : Nat → Nat → Bool
  | 0 => S
  | t + 1 => nxt r c k O (D r c k O S t)
variable {r c k : Nat} {O O' S T : Nat → Bool}
theorem nbs_len (r c b : Nat) : (nbs r c b).length ≤ 4 := by
  unfold nbs
  repeat' split
  all_goals simp
theorem bes_le (S : Nat → Bool) (b : Nat) : bes r c S b ≤ 4 := Nat.le_trans List.countP_le_length (nbs_len r c b)
theorem bes_mono (h : ∀ b, S b = true → T b = true) (b : Nat) : bes r c S b ≤ bes r c T b := List.countP_mono_left fun x _ => h x
theorem nxt_iff {b : Nat} : nxt r c k O S b = true ↔ S b = true ∨ (b < r * c ∧ O b = true ∧ k ≤ bes r c S b) := by
  simp [nxt]
theorem nxt_mono (hO : ∀ b, O b = true → O' b = true) (h : ∀ b, S b = true → T b = true) (b : Nat) (hb : nxt r c k O S b = true) : nxt r c k O' T b = true := by
  rw [nxt_iff] at hb ⊢
  rcases hb with hb | ⟨h1, h2, h3⟩
  · exact .inl (h b hb)
  · exact .inr ⟨h1, hO b h2, Nat.le_trans h3 (bes_mono h b)⟩
theorem D_succ (t : Nat) : D r c k O S (t + 1) = nxt r c k O (D r c k O S t) := rfl
theorem D_grow {t b : Nat} (h : D r c k O S t b = true) : D r c k O S (t + 1) b = true := nxt_iff.2 (.inl h)
theorem D_le {s t b : Nat} (hst : s ≤ t) (h : D r c k O S s b = true) : D r c k O S t b = true := by
  induction hst with
  | refl => exact h
  | step _ ih => exact D_grow ih
theorem D_mono (hO : ∀ b, O b = true → O' b = true) (h : ∀ b, S b = true → T b = true) : ∀ (t b : Nat), D r c k O S t b = true → D r c k O' T t b = true
  | 0, b, hb => h b hb
  | t + 1, b, hb => nxt_mono hO (D_mono hO h t) b hb
theorem D_sup (hS : ∀ b, S b = true → b < r * c) : ∀ (t b : Nat), D r c k O S t b = true → b < r * c
  | 0, b, hb => hS b hb
  | t + 1, b, hb => by
    rcases nxt_iff.1 hb with h | h
    · exact D_sup hS t b h
    · exact h.1
theorem D_stay {t : Nat} (h : D r c k O S (t + 1) = D r c k O S t) {s : Nat} (hs : t ≤ s) : D r c k O S s = D r c k O S t := by
  induction hs with
  | refl => rfl
  | step _ ih => rw [D_succ, ih, ← D_succ, h]
/-- What lies in a set that is closed. -/
theorem D_least (hS : ∀ b, S b = true → T b = true) (hT : ∀ b, nxt r c k O T b = true → T b = true) : ∀ (t b : Nat), D r c k O S t b = true → T b = true
  | 0, b, hb => hS b hb
  | t + 1, b, hb => hT b (nxt_mono (fun _ h => h) (D_least hS hT t) b hb)
def cN (n : Nat) (S : Nat → Bool) : Nat := (List.range n).countP S
theorem cN_le (n : Nat) (S : Nat → Bool) : cN n S ≤ n := by
  have := @List.countP_le_length _ S (List.range n)
  rwa [List.length_range] at this
theorem countP_lt {l : List Nat} (h : ∀ b, S b = true → T b = true) {x : Nat} (hx : x ∈ l) (h1 : S x = false) (h2 : T x = true) : l.countP S < l.countP T := by
  induction l with
  | nil => cases hx
  | cons a l ih =>
    have hm : l.countP S ≤ l.countP T := List.countP_mono_left fun b _ => h b
    rw [List.countP_cons, List.countP_cons]
    rcases List.mem_cons.1 hx with rfl | hx
    · simp [h1, h2]; omega
    · have := ih hx
      by_cases ha : S a = true
      · simp [ha, h a ha]; omega
      · simp [ha]; omega
theorem cN_lt {n x : Nat} (h : ∀ b, S b = true → T b = true) (hx : x < n) (h1 : S x = false) (h2 : T x = true) : cN n S < cN n T := countP_lt h (List.mem_range.2 hx) h1 h2
theorem D_fix (hS : ∀ b, S b = true → b < r * c) : D r c k O S (r * c + 1) = D r c k O S (r * c) := by
  have key : ∀ t, t ≤ cN (r * c) (D r c k O S t) ∨ ∃ s, s < t ∧ D r c k O S (s + 1) = D r c k O S s := by
    intro t
    induction t with
    | zero => exact .inl (Nat.zero_le _)
    | succ t ih =>
      rcases ih with ih | ⟨s, hs, h⟩
      · by_cases he : D r c k O S (t + 1) = D r c k O S t
        · exact .inr ⟨t, by omega, he⟩
        · obtain ⟨b, hb⟩ : ∃ b, D r c k O S (t + 1) b ≠ D r c k O S t b := by
            apply Classical.byContradiction
            intro hn
            exact he (funext fun b => Classical.byContradiction fun hb => hn ⟨b, hb⟩)
          have h1 : D r c k O S t b = false := by
            cases h : D r c k O S t b with
            | false => rfl
            | true => rw [h, D_grow h] at hb; exact absurd rfl hb
          have h2 : D r c k O S (t + 1) b = true := by
            cases h : D r c k O S (t + 1) b with
            | true => rfl
            | false => rw [h, h1] at hb; exact absurd rfl hb
          have := cN_lt (S := D r c k O S t) (T := D r c k O S (t + 1)) (n := r * c) (fun b h => D_grow h) (D_sup hS _ b h2) h1 h2
          exact .inl (by omega)
      · exact .inr ⟨s, by omega, h⟩
  rcases key (r * c + 1) with h | ⟨s, hs, h⟩
  · have := cN_le (r * c) (D r c k O S (r * c + 1))
    omega
  · rw [D_stay h (show s ≤ r * c + 1 by omega), D_stay h (show s ≤ r * c by omega)]
theorem D_end (hS : ∀ b, S b = true → b < r * c) {s : Nat} (hs : r * c ≤ s) : D r c k O S s = D r c k O S (r * c) := D_stay (D_fix hS) hs
/-- All that is reached. -/
def sp (r c k : Nat) (O S : Nat → Bool) : Nat → Bool := D r c k O S (r * c)
theorem sp_sup (hS : ∀ b, S b = true → b < r * c) (b : Nat) (h : sp r c k O S b = true) : b < r * c := D_sup hS _ b h
theorem sp_of {t b : Nat} (hS : ∀ b, S b = true → b < r * c) (h : D r c k O S t b = true) : sp r c k O S b = true := by
  by_cases ht : t ≤ r * c
  · exact D_le ht h
  · rw [D_end hS (by omega)] at h; exact h
theorem sp_stop (hS : ∀ b, S b = true → b < r * c) {t : Nat} (h : D r c k O S (t + 1) = D r c k O S t) : D r c k O S t = sp r c k O S := by
  funext b
  cases hb : sp r c k O S b with
  | true =>
    by_cases ht : t ≤ r * c
    · rw [← D_stay h ht]; exact hb
    · exact D_le (by omega) hb
  | false =>
    cases hd : D r c k O S t b with
    | false => rfl
    | true => rw [sp_of hS hd] at hb; cases hb
theorem sp_closed (hS : ∀ b, S b = true → b < r * c) (b : Nat) (h : nxt r c k O (sp r c k O S) b = true) : sp r c k O S b = true := by
  have := D_fix (k := k) (O := O) hS
  rw [D_succ] at this
  rw [sp, ← this]; exact h
/-- The first number with a property, of those to 25, or -1. -/
def fd (p : Nat → Bool) : Int := match (List.range 26).find? p with
  | some t => t
  | none => -1
theorem fd_iff {p : Nat → Bool} (hp : ∀ t, p t = true → p (t + 1) = true) {t : Nat} (ht : t ≤ 25) : (0 ≤ fd p ∧ fd p ≤ t) ↔ p t = true := by
  have mono : ∀ s u, s ≤ u → p s = true → p u = true := fun s u hsu h => by
    induction hsu with
    | refl => exact h
    | step _ ih => exact hp _ ih
  unfold fd
  cases h : (List.range 26).find? p with
  | none =>
    have := List.find?_eq_none.1 h t (List.mem_range.2 (by omega))
    constructor
    · intro hh; have := hh.1; simp at this
    · intro hh; exact absurd hh this
  | some s =>
    have h1 := List.find?_some h
    constructor
    · intro hh
      exact mono s t (by have := hh.2; simp at this; omega) h1
    · intro hh
      refine ⟨by simp, ?_⟩
      simp only [Int.ofNat_le]
      apply Classical.byContradiction
      intro hn
      obtain ⟨as', bs, he, hno⟩ := List.find?_eq_some_iff_append.1 h |>.2
      have hlt : t < s := by omega
      have h3 : as' ++ s :: bs = List.range 26 := he.symm
      have hlen : as'.length = s := by
        have hs := congrArg (fun l => l[as'.length]?) h3
        simp at hs
        have hl : as'.length < 26 := by
          have := congrArg List.length h3
          simp at this; omega
        rw [List.getElem?_range hl] at hs
        simpa using hs.symm
      have hmem : t ∈ as' := by
        have hg : (as' ++ s :: bs)[t]? = some t := by rw [h3, List.getElem?_range (by omega)]
        rw [List.getElem?_append_left (by omega)] at hg
        exact List.mem_of_getElem? hg
      have := hno t hmem
      rw [hh] at this
      simp at this
theorem fd_range (p : Nat → Bool) : -1 ≤ fd p ∧ fd p ≤ 25 := by
  unfold fd
  cases h : (List.range 26).find? p with
  | none => simp
  | some s =>
    have := List.mem_range.1 (List.mem_of_find?_eq_some h)
    simp only
    omega
/-- The first day. -/
def day (r c : Nat) (O S : Nat → Bool) (b : Nat) : Int := fd fun t => D r c 2 O S t b
theorem day_iff {t b : Nat} (ht : t ≤ 25) : (0 ≤ day r c O S b ∧ day r c O S b ≤ t) ↔ D r c 2 O S t b = true := fd_iff (p := fun t => D r c 2 O S t b) (fun t h => D_grow h) ht
theorem day_range (b : Nat) : -1 ≤ day r c O S b ∧ day r c O S b ≤ 25 := fd_range _
/-- The days so far. -/
def dayT (r c : Nat) (O S : Nat → Bool) (t b : Nat) : Int := if D r c 2 O S t b then day r c O S b else -1
theorem dayT_pos {t b : Nat} (ht : t ≤ 25) : 0 ≤ dayT r c O S t b ↔ D r c 2 O S t b = true := by
  unfold dayT
  cases h : D r c 2 O S t b with
  | true => simpa using ((day_iff ht).2 h).1
  | false => simp
theorem dayT_new {t b : Nat} (ht : t < 25) (h1 : D r c 2 O S t b = false) (h2 : D r c 2 O S (t + 1) b = true) : day r c O S b = (t + 1 : Nat) := by
  have a := (day_iff (by omega)).2 h2
  apply Classical.byContradiction
  intro hn
  have := (day_iff (t := t) (b := b) (r := r) (c := c) (O := O) (S := S) (by omega)).1 ⟨a.1, by omega⟩
  rw [h1] at this; cases this
theorem dayT_end (hS : ∀ b, S b = true → b < r * c) (hn : r * c ≤ 25) (b : Nat) {t : Nat} (ht : D r c 2 O S t = sp r c 2 O S) : dayT r c O S t b = day r c O S b := by
  unfold dayT
  split
  · rfl
  · rename_i h
    have hd : ¬ (0 ≤ day r c O S b) := by
      intro h0
      have := (day_iff (t := 25) (b := b) (r := r) (c := c) (O := O) (S := S) (by omega)).1 ⟨h0, (day_range b).2⟩
      rw [D_end hS hn] at this
      rw [ht] at h
      exact h this
    have := (day_range (r := r) (c := c) (O := O) (S := S) b).1
    omega

/-- Twenty-five marks. -/
def mk (S : Nat → Bool) : List Bool := (List.range 25).map S
theorem mk_len (S : Nat → Bool) : (mk S).length = 25 := by simp [mk]
theorem mk_get {i : Nat} (hi : i < 25) : (mk S)[i]? = some (S i) := by
  simp [mk, List.getElem?_range hi]
theorem mk_eq : mk S = mk T ↔ ∀ b, b < 25 → S b = T b := by
  constructor
  · intro h b hb
    have := congrArg (fun l => l[b]?) h
    simp only [mk_get hb] at this
    simpa using this
  · intro h
    exact List.map_congr_left fun b hb => h b (List.mem_range.1 hb)
def upd (S : Nat → Bool) (b : Nat) (v : Bool) : Nat → Bool := fun x => if x = b then v else S x
theorem mk_set (S : Nat → Bool) (b : Nat) (v : Bool) : (mk S).set b v = mk (upd S b v) := by
  refine List.ext_getElem? fun i => ?_
  rw [List.getElem?_set]
  by_cases hi : i < 25
  · rw [mk_get hi, mk_get hi, mk_len]
    unfold upd
    split
    · rename_i h; subst h; simp [hi]
    · rename_i h; rw [if_neg (fun h' => h h'.symm)]
  · have h1 : (mk S)[i]? = none := by simp [mk]; omega
    have h2 : (mk (upd S b v))[i]? = none := by simp [mk]; omega
    rw [h1, h2, mk_len]
    split
    · simp; omega
    · rfl
def none' : Nat → Bool := fun _ => false
/-- The numbers of a set, in order. -/
def num (S : Nat → Bool) : List Int := ((List.range 25).filter S).map (fun n : Nat => (n : Int))
def numT (t : Nat) (S : Nat → Bool) : List Int := ((List.range t).filter S).map (fun n : Nat => (n : Int))
theorem num_all (S : Nat → Bool) : numT 25 S = num S := rfl
theorem numT_succ (t : Nat) (S : Nat → Bool) : numT (t + 1) S = numT t S ++ if S t then [(t : Int)] else [] := by
  unfold numT
  rw [List.range_succ, List.filter_append, List.map_append]
  cases h : S t <;> simp [h]
theorem mem_num {x : Int} : x ∈ num S ↔ ∃ b : Nat, b < 25 ∧ S b = true ∧ x = b := by
  unfold num
  simp only [List.mem_map, List.mem_filter, List.mem_range]
  constructor
  · rintro ⟨b, ⟨h1, h2⟩, rfl⟩; exact ⟨b, h1, h2, rfl⟩
  · rintro ⟨b, h1, h2, rfl⟩; exact ⟨b, ⟨h1, h2⟩, rfl⟩
theorem num_len (S : Nat → Bool) : (num S).length ≤ 25 := by
  unfold num
  rw [List.length_map]
  exact Nat.le_trans (List.length_filter_le ..) (by simp)
end Go.Proofs.Ytfbpgnjeafadmaa.Fl
