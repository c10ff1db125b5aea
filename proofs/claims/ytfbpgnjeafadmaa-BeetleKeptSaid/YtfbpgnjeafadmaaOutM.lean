/- The outline does not grow; the first choice that fits. -/
import Derived.Test.YtfbpgnjeafadmaaLw
namespace Go.Proofs.Ytfbpgnjeafadmaa.Fl
open Go Go.Proofs.Ytfbpgnjeafadmaa Go.Proofs.Ytfbpgnjeafadmaa.AX
set_option maxRecDepth 100000

def adjB : Bool := (List.range' 1 5).all fun r => (List.range' 1 5).all fun c => (List.range (r * c)).all fun x => (nbs r c x).all (fun y => decide (y < r * c) && ((nbs r c y).contains x && !(y == x))) && decide ((nbs r c x).Nodup)
theorem adj_all : adjB = true := by decide +kernel
theorem adj {r c x : Nat} (hs : Sd r c) (hx : x < r * c) : (∀ y ∈ nbs r c x, y < r * c ∧ x ∈ nbs r c y ∧ y ≠ x) ∧ (nbs r c x).Nodup := by
  have h := adj_all
  unfold adjB at h
  rw [List.all_eq_true] at h
  have h1 := h r (by rw [List.mem_range'_1]; exact ⟨hs.r1, by have := hs.r5; omega⟩)
  rw [List.all_eq_true] at h1
  have h2 := h1 c (by rw [List.mem_range'_1]; exact ⟨hs.c1, by have := hs.c5; omega⟩)
  rw [List.all_eq_true] at h2
  have h3 := h2 x (List.mem_range.2 hx)
  simp only [Bool.and_eq_true, List.all_eq_true, decide_eq_true_eq] at h3
  refine ⟨fun y hy => ?_, h3.2⟩
  have := h3.1 y hy
  simp only [List.contains_iff_mem, Bool.not_eq_true', beq_eq_false_iff_ne] at this
  exact ⟨this.1, this.2.1, this.2.2⟩
def olF (r c : Nat) (S : Nat → Bool) : Int := ((List.range 25).map fun b => if S b = true then 4 - ((bes r c S b : Nat) : Int) else 0).sum
theorem sum_filter (f : Nat → Int) (S : Nat → Bool) : ∀ L : List Nat, ((L.filter S).map f).sum = (L.map fun b => if S b = true then f b else 0).sum
  | [] => rfl
  | x :: L => by
    have ih := sum_filter f S L
    rw [List.filter_cons, List.map_cons, List.sum_cons]
    cases h : S x with
    | true => rw [if_pos rfl, if_pos rfl, List.map_cons, List.sum_cons, ih]
    | false => rw [if_neg (by decide), if_neg (by decide), ih]; simp
theorem ol_olF (r c : Nat) (S : Nat → Bool) : ol r c S = olF r c S := by
  unfold ol olF num
  rw [List.map_map, ← sum_filter]
  rfl
theorem sum_add (f h : Nat → Int) : ∀ L : List Nat, (L.map fun b => f b + h b).sum = (L.map f).sum + (L.map h).sum
  | [] => rfl
  | x :: L => by
    rw [List.map_cons, List.sum_cons, List.map_cons, List.sum_cons, List.map_cons, List.sum_cons, sum_add f h L]
    omega
theorem sum_congr {f h : Nat → Int} {L : List Nat} (e : ∀ b ∈ L, f b = h b) : (L.map f).sum = (L.map h).sum := by
  rw [List.map_congr_left e]
theorem sum_one (x : Nat) (v : Int) : ∀ L : List Nat, L.Nodup → x ∈ L → (L.map fun b => if b = x then v else 0).sum = v
  | [], _, h => by cases h
  | y :: L, hn, h => by
    obtain ⟨h1, h2⟩ := List.nodup_cons.1 hn
    rw [List.map_cons, List.sum_cons]
    by_cases e : y = x
    · subst e
      rw [if_pos rfl]
      have : (L.map fun b => if b = y then v else 0).sum = 0 := by
        have : ∀ M : List Nat, (∀ b ∈ M, b ≠ y) → (M.map fun b => if b = y then v else 0).sum = 0 := by
          intro M
          induction M with
          | nil => intro _; rfl
          | cons z M ih =>
            intro hM
            rw [List.map_cons, List.sum_cons, if_neg (hM z (by simp)), ih fun b hb => hM b (by simp [hb])]
            rfl
        exact this L fun b hb e => h1 (by rw [← e]; exact hb)
      omega
    · rw [if_neg e, sum_one x v L h2 (by rcases List.mem_cons.1 h with h | h; exact absurd h.symm e; exact h)]
      omega
theorem sum_count (p : Nat → Bool) : ∀ L : List Nat, (L.map fun b => if p b = true then (1 : Int) else 0).sum = (L.countP p : Nat)
  | [] => rfl
  | x :: L => by
    rw [List.map_cons, List.sum_cons, sum_count p L, List.countP_cons]
    cases h : p x <;> simp <;> omega
theorem bes_upd {r c : Nat} {S : Nat → Bool} {x b : Nat} (hx : S x = false) (hn : (nbs r c b).Nodup) : bes r c (upd S x true) b = bes r c S b + (if x ∈ nbs r c b then 1 else 0) := by
  unfold bes
  generalize nbs r c b = L at hn ⊢
  induction L with
  | nil => rfl
  | cons y L ih =>
    obtain ⟨h1, h2⟩ := List.nodup_cons.1 hn
    rw [List.countP_cons, List.countP_cons, ih h2]
    by_cases e : y = x
    · subst e
      rw [if_neg h1]
      have : upd S y true y = true := by simp [upd]
      simp [this, hx]
    · have e1 : upd S x true y = S y := by simp [upd, e]
      have e2 : (x ∈ y :: L) ↔ x ∈ L := by simp [Ne.symm e]
      rw [e1]
      simp only [e2]
      omega
/-- A bale more with at least two neighbours: the outline does not grow. -/
theorem olF_upd {r c : Nat} (hs : Sd r c) {S : Nat → Bool} (hS : ∀ b, S b = true → b < r * c) {x : Nat} (hx : x < r * c) (hSx : S x = false) : olF r c (upd S x true) = olF r c S + 4 - 2 * (bes r c S x : Nat) := by
  have h25 := hs.le
  have hcnt : ((List.range 25).countP fun b => S b && (nbs r c b).contains x) = bes r c S x := by
    have e1 : ((List.range 25).countP fun b => S b && (nbs r c b).contains x) = (((List.range 25).filter fun b => (nbs r c x).contains b)).countP S := by
      rw [List.countP_filter]
      refine List.countP_congr fun b hb => ?_
      simp only [Bool.and_eq_true, List.contains_iff_mem]
      constructor
      · rintro ⟨h1, h2⟩
        exact ⟨h1, ((adj hs (hS b h1)).1 x h2).2.1⟩
      · rintro ⟨h1, h2⟩
        exact ⟨h1, ((adj hs hx).1 b h2).2.1⟩
    rw [e1]
    unfold bes
    refine List.Perm.countP_eq _ ((List.perm_ext_iff_of_nodup (List.Pairwise.filter _ List.nodup_range) (adj hs hx).2).2 fun b => ?_)
    simp only [List.mem_filter, List.mem_range, List.contains_iff_mem]
    constructor
    · rintro ⟨_, h⟩; exact h
    · intro h; exact ⟨by have := ((adj hs hx).1 b h).1; omega, h⟩
  have e : ∀ b ∈ List.range 25, (if upd S x true b = true then 4 - ((bes r c (upd S x true) b : Nat) : Int) else 0) = ((if S b = true then 4 - ((bes r c S b : Nat) : Int) else 0) + (if b = x then 4 - ((bes r c S x : Nat) : Int) else 0)) + (- (if (S b && (nbs r c b).contains x) = true then (1 : Int) else 0)) := by
    intro b _
    by_cases hb : b = x
    · subst hb
      have h1 : upd S b true b = true := by simp [upd]
      have h2 : ¬ b ∈ nbs r c b := fun h => ((adj hs hx).1 b h).2.2 rfl
      rw [if_pos h1, bes_upd hSx (adj hs hx).2, if_neg h2, hSx]
      simp
    · have h1 : upd S x true b = S b := by simp [upd, hb]
      rw [h1, if_neg hb]
      cases hSb : S b with
      | false => simp
      | true =>
        rw [bes_upd hSx (adj hs (hS b hSb)).2]
        by_cases h3 : x ∈ nbs r c b
        · rw [if_pos h3]
          have : (true && (nbs r c b).contains x) = true := by simpa using h3
          rw [this]
          simp
          omega
        · rw [if_neg h3]
          have : (true && (nbs r c b).contains x) = false := by simpa using h3
          rw [this]
          simp
  have hneg : ∀ L : List Nat, (L.map fun b => - (if (S b && (nbs r c b).contains x) = true then (1 : Int) else 0)).sum = - (L.map fun b => (if (S b && (nbs r c b).contains x) = true then (1 : Int) else 0)).sum := by
    intro L
    induction L with
    | nil => rfl
    | cons y L ih => rw [List.map_cons, List.sum_cons, List.map_cons, List.sum_cons, ih]; omega
  unfold olF
  rw [sum_congr e, sum_add, sum_add, hneg, sum_count, hcnt, sum_one x _ _ List.nodup_range (List.mem_range.2 (by omega))]
  omega
theorem nxp_sup {r c : Nat} {O S : Nat → Bool} (hS : ∀ b, S b = true → b < r * c) {i : Nat} (hi : i ≤ r * c) (b : Nat) (h : nxp r c 2 O S i b = true) : b < r * c := by
  unfold nxp at h
  simp only [Bool.or_eq_true, Bool.and_eq_true, decide_eq_true_eq] at h
  rcases h with h | h
  · exact hS b h
  · omega
theorem olF_nxt {r c : Nat} (hs : Sd r c) {O S : Nat → Bool} (hS : ∀ b, S b = true → b < r * c) : olF r c (nxt r c 2 O S) ≤ olF r c S := by
  have key : ∀ i, i ≤ r * c → olF r c (nxp r c 2 O S i) ≤ olF r c S := by
    intro i
    induction i with
    | zero => intro _; rw [nxp_zero]; omega
    | succ i ih =>
      intro hi
      have h0 := ih (by omega)
      cases hc : (O i && decide (2 ≤ bes r c S i)) with
      | false => rw [← nxp_succ_f hc]; exact h0
      | true =>
        rw [← nxp_succ_t hc]
        cases hx : nxp r c 2 O S i i with
        | true =>
          have : upd (nxp r c 2 O S i) i true = nxp r c 2 O S i := by
            funext b
            unfold upd
            split
            · rename_i e; rw [e, hx]
            · rfl
          rw [this]; exact h0
        | false =>
          rw [olF_upd hs (S := nxp r c 2 O S i) (fun b hb => nxp_sup hS (by omega) b hb) (by omega) hx]
          simp only [Bool.and_eq_true, decide_eq_true_eq] at hc
          have : bes r c S i ≤ bes r c (nxp r c 2 O S i) i := bes_mono (fun b hb => by simp [nxp, hb]) i
          omega
  exact key (r * c) (Nat.le_refl _)
theorem ol_sp {r c : Nat} (hs : Sd r c) {O S : Nat → Bool} (hS : ∀ b, S b = true → b < r * c) : ol r c (sp r c 2 O S) ≤ ol r c S := by
  rw [ol_olF, ol_olF]
  have : ∀ t, olF r c (D r c 2 O S t) ≤ olF r c S := by
    intro t
    induction t with
    | zero => exact Int.le_refl _
    | succ t ih => exact Int.le_trans (olF_nxt hs (D_sup hS t)) ih
  exact this _
def fullB : Bool := (List.range' 1 5).all fun r => (List.range' 1 5).all fun c => decide (olF r c (lt' (r * c)) = 2 * (r + c))
theorem full_all : fullB = true := by decide +kernel
theorem ol_full {r c : Nat} (hs : Sd r c) : ol r c (lt' (r * c)) = 2 * (r + c) := by
  rw [ol_olF]
  have h := full_all
  unfold fullB at h
  rw [List.all_eq_true] at h
  have h1 := h r (by rw [List.mem_range'_1]; exact ⟨hs.r1, by have := hs.r5; omega⟩)
  rw [List.all_eq_true] at h1
  exact of_decide_eq_true (h1 c (by rw [List.mem_range'_1]; exact ⟨hs.c1, by have := hs.c5; omega⟩))
/-- So few bales do not reach all. -/
theorem few {r c : Nat} (hs : Sd r c) {O S : Nat → Bool} (hS : ∀ b, S b = true → b < r * c) (h : sp r c 2 O S = lt' (r * c)) : r + c ≤ 2 * (num S).length := by
  have h1 := ol_sp (O := O) hs hS
  rw [h, ol_full hs] at h1
  have h2 := olT_range r c S (num S) (num S).length (Nat.le_refl _)
  have e : olT r c S (num S) (num S).length = ol r c S := by unfold olT ol; rw [List.take_length]
  rw [e] at h2
  omega

/-! ### The first choice -/
def lexI : List Int → List Int → Int
  | [], [] => 0
  | [], _ :: _ => -1
  | _ :: _, [] => 1
  | x :: a, y :: b => if x < y then -1 else if y < x then 1 else lexI a b
def addL (C : Nat → Bool) : List Nat → Nat → Bool
  | [] => C
  | b :: l => addL (upd C b true) l
/-- Ascending bales of some, from one on. -/
def AscL (F : Nat → Bool) (i : Nat) : List Nat → Prop
  | [] => True
  | b :: l => i ≤ b ∧ b < 25 ∧ F b = true ∧ AscL F (b + 1) l
theorem chL_first {fits : (Nat → Bool) → Bool} {F : Nat → Bool} {m : Nat}
    (ih : ∀ (i : Nat) (C : Nat → Bool) (us : List Nat), i ≤ 25 → us.length = m → AscL F i us → fits (addL C us) = true → (chP fits F m i C).2 = true ∧ ∃ ts : List Nat, ts.length = m ∧ AscL F i ts ∧ (chP fits F m i C).1 = addL C ts ∧ fits (addL C ts) = true ∧ lexI (ts.map fun n : Nat => (n : Int)) (us.map fun n : Nat => (n : Int)) ≤ 0)
    (ih2 : ∀ (i : Nat) (C : Nat → Bool), i ≤ 25 → (chP fits F m i C).2 = true → ∃ ts : List Nat, ts.length = m ∧ AscL F i ts ∧ (chP fits F m i C).1 = addL C ts ∧ fits (addL C ts) = true) :
    ∀ (d i : Nat) (C : Nat → Bool) (u : Nat) (us : List Nat), i + d = 25 → us.length = m → AscL F i (u :: us) → fits (addL C (u :: us)) = true → (chL F (chP fits F m) C (List.range' i d)).2 = true ∧ ∃ ts : List Nat, ts.length = m + 1 ∧ AscL F i ts ∧ (chL F (chP fits F m) C (List.range' i d)).1 = addL C ts ∧ fits (addL C ts) = true ∧ lexI (ts.map fun n : Nat => (n : Int)) ((u :: us).map fun n : Nat => (n : Int)) ≤ 0
  | 0, i, C, u, us, hd, hl, hA, hf => by
    obtain ⟨h1, h2, -⟩ := hA
    omega
  | d + 1, i, C, u, us, hd, hl, hA, hf => by
    obtain ⟨h1, h2, h3, h4⟩ := hA
    rw [List.range'_succ]
    simp only [chL]
    by_cases hiu : i = u
    · subst hiu
      rw [if_pos h3]
      obtain ⟨g1, ts, g2, g3, g4, g5, g6⟩ := ih (i + 1) (upd C i true) us (by omega) hl h4 hf
      rw [if_pos g1]
      refine ⟨rfl, i :: ts, by simp [g2], ⟨Nat.le_refl _, h2, h3, g3⟩, g4, g5, ?_⟩
      simp only [List.map_cons, lexI]
      rw [if_neg (by omega), if_neg (by omega)]
      exact g6
    · have rest := chL_first ih ih2 d (i + 1) C u us (by omega) hl ⟨by omega, h2, h3, h4⟩ hf
      have weak : ∀ ts, AscL F (i + 1) ts → AscL F i ts := by
        intro ts h
        cases ts with
        | nil => trivial
        | cons t ts => exact ⟨by have := h.1; omega, h.2⟩
      obtain ⟨r1, ts', r2, r3, r4⟩ := rest
      by_cases hF : F i = true
      · rw [if_pos hF]
        by_cases hr : (chP fits F m (i + 1) (upd C i true)).2 = true
        · rw [if_pos hr]
          obtain ⟨ts, g2, g3, g4, g5⟩ := ih2 (i + 1) (upd C i true) (by omega) hr
          refine ⟨rfl, i :: ts, by simp [g2], ⟨Nat.le_refl _, by omega, hF, g3⟩, g4, g5, ?_⟩
          simp only [List.map_cons, lexI]
          rw [if_pos (by omega)]
          omega
        · rw [if_neg hr]
          exact ⟨r1, ts', r2, weak _ r3, r4⟩
      · rw [if_neg hF]
        exact ⟨r1, ts', r2, weak _ r3, r4⟩
theorem chL_some {fits : (Nat → Bool) → Bool} {F : Nat → Bool} {m : Nat}
    (ih2 : ∀ (i : Nat) (C : Nat → Bool), i ≤ 25 → (chP fits F m i C).2 = true → ∃ ts : List Nat, ts.length = m ∧ AscL F i ts ∧ (chP fits F m i C).1 = addL C ts ∧ fits (addL C ts) = true) :
    ∀ (d i : Nat) (C : Nat → Bool), i + d = 25 → (chL F (chP fits F m) C (List.range' i d)).2 = true → ∃ ts : List Nat, ts.length = m + 1 ∧ AscL F i ts ∧ (chL F (chP fits F m) C (List.range' i d)).1 = addL C ts ∧ fits (addL C ts) = true
  | 0, i, C, _, h => by simp [chL] at h
  | d + 1, i, C, hd, h => by
    rw [List.range'_succ] at h ⊢
    simp only [chL] at h ⊢
    have weak : ∀ ts, AscL F (i + 1) ts → AscL F i ts := by
      intro ts h
      cases ts with
      | nil => trivial
      | cons t ts => exact ⟨by have := h.1; omega, h.2⟩
    by_cases hF : F i = true
    · rw [if_pos hF] at h ⊢
      by_cases hr : (chP fits F m (i + 1) (upd C i true)).2 = true
      · rw [if_pos hr]
        obtain ⟨ts, g2, g3, g4, g5⟩ := ih2 (i + 1) (upd C i true) (by omega) hr
        exact ⟨i :: ts, by simp [g2], ⟨Nat.le_refl _, by omega, hF, g3⟩, g4, g5⟩
      · rw [if_neg hr] at h ⊢
        obtain ⟨ts, g2, g3, g4⟩ := chL_some ih2 d (i + 1) C (by omega) h
        exact ⟨ts, g2, weak _ g3, g4⟩
    · rw [if_neg hF] at h ⊢
      obtain ⟨ts, g2, g3, g4⟩ := chL_some ih2 d (i + 1) C (by omega) h
      exact ⟨ts, g2, weak _ g3, g4⟩
theorem chP_some (fits : (Nat → Bool) → Bool) (F : Nat → Bool) : ∀ (m i : Nat) (C : Nat → Bool), i ≤ 25 → (chP fits F m i C).2 = true → ∃ ts : List Nat, ts.length = m ∧ AscL F i ts ∧ (chP fits F m i C).1 = addL C ts ∧ fits (addL C ts) = true
  | 0, i, C, _, h => ⟨[], rfl, trivial, rfl, h⟩
  | m + 1, i, C, hi, h => chL_some (chP_some fits F m) (25 - i) i C (by omega) h
theorem chP_first (fits : (Nat → Bool) → Bool) (F : Nat → Bool) : ∀ (m i : Nat) (C : Nat → Bool) (us : List Nat), i ≤ 25 → us.length = m → AscL F i us → fits (addL C us) = true → (chP fits F m i C).2 = true ∧ ∃ ts : List Nat, ts.length = m ∧ AscL F i ts ∧ (chP fits F m i C).1 = addL C ts ∧ fits (addL C ts) = true ∧ lexI (ts.map fun n : Nat => (n : Int)) (us.map fun n : Nat => (n : Int)) ≤ 0
  | 0, i, C, us, _, hl, _, hf => by
    have : us = [] := List.length_eq_zero_iff.1 hl
    subst this
    exact ⟨hf, [], rfl, trivial, rfl, hf, by simp [lexI]⟩
  | m + 1, i, C, [], _, hl, _, _ => by simp at hl
  | m + 1, i, C, u :: us, hi, hl, hA, hf => chL_first (chP_first fits F m) (chP_some fits F m) (25 - i) i C u us (by omega) (by simpa using hl) hA hf
end Go.Proofs.Ytfbpgnjeafadmaa.Fl
