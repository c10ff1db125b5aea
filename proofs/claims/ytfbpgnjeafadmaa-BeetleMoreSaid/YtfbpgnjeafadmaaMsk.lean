/- Sets as numbers: what is reached, days and choices are reckoned. -/
import Derived.Test.YtfbpgnjeafadmaaKee
import Derived.Test.YtfbpgnjeafadmaaDayM
import Derived.Test.YtfbpgnjeafadmaaLDays
import Derived.Test.YtfbpgnjeafadmaaAxQ
namespace Go.Proofs.Ytfbpgnjeafadmaa.Fl
open Go Go.Proofs.Ytfbpgnjeafadmaa Go.Proofs.Ytfbpgnjeafadmaa.AX

noncomputable def nxN (r c k O m : Nat) : Nat := (List.range (r * c)).foldl (fun a b => bif !m.testBit b && (O.testBit b && Nat.ble k (bes r c m.testBit b)) then a ||| (1 <<< b) else a) m
theorem nxN_fold (r c k O m : Nat) (b : Nat) : ∀ t, ((List.range t).foldl (fun a b => bif !m.testBit b && (O.testBit b && Nat.ble k (bes r c m.testBit b)) then a ||| (1 <<< b) else a) m).testBit b = (m.testBit b || (decide (b < t) && (O.testBit b && decide (k ≤ bes r c m.testBit b))))
  | 0 => by simp
  | t + 1 => by
    rw [List.range_succ, List.foldl_append, List.foldl_cons, List.foldl_nil]
    have ih := nxN_fold r c k O m b t
    generalize (List.range t).foldl _ m = a at ih ⊢
    have hk : Nat.ble k (bes r c m.testBit t) = decide (k ≤ bes r c m.testBit t) := by
      cases h : Nat.ble k (bes r c m.testBit t) with
      | true => exact (decide_eq_true (Nat.le_of_ble_eq_true h)).symm
      | false => exact (decide_eq_false fun h2 => by rw [Nat.ble_eq_true_of_le h2] at h; cases h).symm
    rw [hk]
    by_cases hb : b = t
    · subst hb
      have e1 : decide (b < b) = false := by simp
      have e2 : decide (b < b + 1) = true := by simp
      rw [e1] at ih
      rw [e2]
      simp only [Bool.false_and, Bool.or_false] at ih
      cases h1 : m.testBit b <;> cases h2 : O.testBit b <;> cases h3 : decide (k ≤ bes r c m.testBit b) <;> simp_all
    · have e : decide (b < t + 1) = decide (b < t) := decide_eq_decide.2 (by omega)
      rw [e, ← ih]
      cases (!m.testBit t && (O.testBit t && decide (k ≤ bes r c m.testBit t))) with
      | false => rfl
      | true =>
        show (a ||| 1 <<< t).testBit b = _
        rw [Nat.testBit_or, bit1, decide_eq_false (fun h => hb h.symm), Bool.or_false]

theorem nxN_tb (r c k O m : Nat) : tb (nxN r c k O m) = nxt r c k (tb O) (tb m) := by
  funext b
  exact nxN_fold r c k O m b (r * c)
noncomputable def itF (r c k O : Nat) : Nat → Nat → Nat := fun f => Nat.rec (fun m => m) (fun _ ih m => forceN (nxN r c k O m) fun x => bif Nat.beq x m then m else ih x) f
theorem itF_tb (r c k O : Nat) : ∀ f m, tb (itF r c k O f m) = D r c k (tb O) (tb m) f
  | 0, m => rfl
  | f + 1, m => by
    have h : itF r c k O (f + 1) m = forceN (nxN r c k O m) fun x => bif Nat.beq x m then m else itF r c k O f x := rfl
    rw [h, forceN_eq]
    have hs : D r c k (tb O) (tb m) (f + 1) = D r c k (tb O) (tb (nxN r c k O m)) f := by
      rw [nxN_tb]
      have : ∀ t, D r c k (tb O) (tb m) (t + 1) = D r c k (tb O) (nxt r c k (tb O) (tb m)) t := by
        intro t
        induction t with
        | zero => rfl
        | succ t ih => rw [D_succ, ih]; rfl
      exact this f
    cases hb : Nat.beq (nxN r c k O m) m with
    | true =>
      have e := Nat.eq_of_beq_eq_true hb
      have hst : D r c k (tb O) (tb m) 1 = D r c k (tb O) (tb m) 0 := by
        show nxt r c k (tb O) (tb m) = tb m
        rw [← nxN_tb, e]
      show tb m = _
      exact (D_stay (t := 0) hst (Nat.zero_le _)).symm
    | false =>
      show tb (itF r c k O f (nxN r c k O m)) = _
      rw [itF_tb r c k O f, hs]
noncomputable def spN (r c k O m : Nat) : Nat := itF r c k O (r * c) m
theorem spN_tb (r c k O m : Nat) : tb (spN r c k O m) = sp r c k (tb O) (tb m) := itF_tb r c k O (r * c) m
noncomputable def maskL : List Bool → Nat := fun l => List.rec 0 (fun b _ ih => forceN ih fun x => bif b then 2 * x + 1 else 2 * x) l
theorem maskL_cons (b : Bool) (l : List Bool) : maskL (b :: l) = 2 * maskL l + (if b then 1 else 0) := by
  show forceN (maskL l) (fun x => bif b then 2 * x + 1 else 2 * x) = _
  rw [forceN_eq]
  cases b <;> simp
theorem maskL_tb : ∀ (l : List Bool) (b : Nat), (maskL l).testBit b = l.getD b false
  | [], b => by simp [maskL]
  | x :: l, 0 => by
    rw [maskL_cons, Nat.testBit_zero]
    cases x <;> simp <;> omega
  | x :: l, b + 1 => by
    rw [maskL_cons, Nat.testBit_succ]
    have : (2 * maskL l + if x = true then 1 else 0) / 2 = maskL l := by split <;> omega
    rw [this, maskL_tb l b]
    simp
def boolsOf : List AV → Option (List Bool)
  | [] => some []
  | .bool b :: l => (boolsOf l).map (b :: ·)
  | _ :: _ => none
theorem boolsOf_eq : ∀ {l : List AV} {bs : List Bool}, boolsOf l = some bs → l = bs.map .bool
  | [], bs, h => by cases h; rfl
  | v :: l, bs, h => by
    cases v <;> simp only [boolsOf] at h <;> try cases h
    obtain ⟨cs, h1, rfl⟩ := Option.map_eq_some_iff.1 h
    rw [boolsOf_eq h1]; rfl
theorem bA_mask {l : List AV} {bs : List Bool} (h : boolsOf l = some bs) (hl : bs.length = 25) : l = bA (tb (maskL bs)) := by
  rw [boolsOf_eq h, bA]
  congr 1
  refine List.ext_getElem? fun i => ?_
  by_cases hi : i < 25
  · rw [mk_get hi, tb, maskL_tb, List.getElem?_eq_getElem (by omega)]
    simp [List.getD_eq_getElem?_getD, hl, hi]
  · have h1 : bs[i]? = none := by simp; omega
    have h2 : (mk (tb (maskL bs)))[i]? = none := by simp [mk]; omega
    rw [h1, h2]
/-- A row of marks, reckoned. -/
noncomputable def forceB {α : Type} (b : Bool) (k : Bool → α) : α := Bool.rec (k false) (k true) b
theorem forceB_eq {α : Type} (b : Bool) (k : Bool → α) : forceB b k = k b := by cases b <;> rfl
noncomputable def rowN {α : Type} (m : Nat) : Nat → Nat → (List AV → α) → α := fun n => Nat.rec (fun _ k => k []) (fun _ ih i k => forceB (m.testBit i) fun b => ih (Nat.succ i) fun l => k (.bool b :: l)) n
theorem rowN_eq {α : Type} (m : Nat) : ∀ (n i : Nat) (k : List AV → α), rowN m n i k = k ((List.range' i n).map fun b => .bool (tb m b))
  | 0, _, _ => rfl
  | n + 1, i, k => by
    show forceB (m.testBit i) (fun b => rowN m n (i + 1) fun l => k (.bool b :: l)) = _
    rw [forceB_eq, rowN_eq m n, List.range'_succ]
    rfl
theorem rowN_bA {α : Type} (m : Nat) (k : List AV → α) : rowN m 25 0 k = k (bA (tb m)) := by
  rw [rowN_eq]
  congr 1
/-- The first day, reckoned. -/
noncomputable def dayF (r c O b : Nat) : Nat → Nat → Nat → Int := fun f => Nat.rec (fun _ _ => -1) (fun _ ih t m => bif m.testBit b then (t : Int) else forceN (nxN r c 2 O m) fun x => bif Nat.beq x m then -1 else ih (Nat.succ t) x) f
theorem dayF_eq (r c O b m0 : Nat) : ∀ f t m, tb m = D r c 2 (tb O) (tb m0) t → (∀ s, s < t → D r c 2 (tb O) (tb m0) s b = false) → f + t = 26 → dayF r c O b f t m = day r c (tb O) (tb m0) b
  | 0, t, m, hm, hno, hft => by
    have : ¬ 0 ≤ day r c (tb O) (tb m0) b := by
      intro h
      have := (day_iff (t := 25) (b := b) (r := r) (c := c) (O := tb O) (S := tb m0) (by omega)).1 ⟨h, (day_range b).2⟩
      rw [hno 25 (by omega)] at this; cases this
    have h2 := (day_range (r := r) (c := c) (O := tb O) (S := tb m0) b).1
    show (-1 : Int) = _
    omega
  | f + 1, t, m, hm, hno, hft => by
    show (bif m.testBit b then (t : Int) else forceN (nxN r c 2 O m) fun x => bif Nat.beq x m then -1 else dayF r c O b f (t + 1) x) = _
    have hb : m.testBit b = D r c 2 (tb O) (tb m0) t b := congrFun hm b
    cases hd : m.testBit b with
    | true =>
      rw [hd] at hb
      cases t with
      | zero =>
        have := (day_iff (t := 0) (b := b) (r := r) (c := c) (O := tb O) (S := tb m0) (by omega)).2 hb.symm
        show ((0 : Nat) : Int) = _
        omega
      | succ t => exact (dayT_new (by omega) (hno t (by omega)) hb.symm).symm
    | false =>
      rw [hd] at hb
      show (forceN (nxN r c 2 O m) fun x => bif Nat.beq x m then -1 else dayF r c O b f (t + 1) x) = _
      rw [forceN_eq]
      have hm2 : tb (nxN r c 2 O m) = D r c 2 (tb O) (tb m0) (t + 1) := by rw [nxN_tb, hm, D_succ]
      cases he : Nat.beq (nxN r c 2 O m) m with
      | true =>
        have e := Nat.eq_of_beq_eq_true he
        have hst : D r c 2 (tb O) (tb m0) (t + 1) = D r c 2 (tb O) (tb m0) t := by rw [← hm2, e, hm]
        have : ¬ 0 ≤ day r c (tb O) (tb m0) b := by
          intro h
          have := (day_iff (t := 25) (b := b) (r := r) (c := c) (O := tb O) (S := tb m0) (by omega)).1 ⟨h, (day_range b).2⟩
          rw [D_stay hst (by omega), ← hb] at this; cases this
        have h2 := (day_range (r := r) (c := c) (O := tb O) (S := tb m0) b).1
        show (-1 : Int) = _
        omega
      | false =>
        show dayF r c O b f (t + 1) (nxN r c 2 O m) = _
        refine dayF_eq r c O b m0 f (t + 1) _ hm2 (fun s hs => ?_) (by omega)
        by_cases h : s = t
        · rw [h]; exact hb.symm
        · exact hno s (by omega)
theorem dayF_day (r c O b m : Nat) : dayF r c O b 26 0 m = day r c (tb O) (tb m) b := dayF_eq r c O b m 26 0 m rfl (fun s hs => by omega) rfl
/-- Choices, reckoned. -/
noncomputable def chNL (F : Nat) (rec : Nat → Nat → Nat × Bool) (C : Nat) : List Nat → Nat × Bool := fun l => List.rec (0, false) (fun b _ ih => bif F.testBit b then (match rec (Nat.succ b) (C ||| 1 <<< b) with | (T, true) => (T, true) | _ => ih) else ih) l
noncomputable def chN (fits : Nat → Bool) (F : Nat) : Nat → Nat → Nat → Nat × Bool := fun m => Nat.rec (fun _ C => (C, fits C)) (fun _ ih i C => chNL F ih C (List.range' i (25 - i))) m
def okR (a : Nat × Bool) (b : (Nat → Bool) × Bool) : Prop := tb a.1 = b.1 ∧ a.2 = b.2
theorem tb_zero : tb 0 = none' := by funext b; simp [tb, none']
theorem chNL_ok {F : Nat} {rec : Nat → Nat → Nat × Bool} {rec' : Nat → (Nat → Bool) → (Nat → Bool) × Bool} (hr : ∀ i C, okR (rec i C) (rec' i (tb C))) (C : Nat) : ∀ l, okR (chNL F rec C l) (chL (tb F) rec' (tb C) l)
  | [] => ⟨tb_zero, rfl⟩
  | b :: l => by
    have e : chNL F rec C (b :: l) = bif F.testBit b then (match rec (Nat.succ b) (C ||| 1 <<< b) with | (T, true) => (T, true) | _ => chNL F rec C l) else chNL F rec C l := rfl
    rw [e]
    simp only [chL]
    have ih := chNL_ok (F := F) hr C l
    have h := hr (b + 1) (C ||| 1 <<< b)
    rw [tb_upd] at h
    cases hF : F.testBit b with
    | false =>
      rw [if_neg (by simp [tb, hF])]
      exact ih
    | true =>
      rw [if_pos (show tb F b = true from hF)]
      show okR (match rec (b + 1) (C ||| 1 <<< b) with | (T, true) => (T, true) | _ => chNL F rec C l) _
      obtain ⟨h1, h2⟩ := h
      rcases hx : rec (b + 1) (C ||| 1 <<< b) with ⟨T, t⟩
      rw [hx] at h1 h2
      cases t with
      | true => rw [if_pos h2.symm]; exact ⟨h1, rfl⟩
      | false => rw [if_neg (by rw [← h2]; simp)]; exact ih
theorem chN_ok {fits : Nat → Bool} {fits' : (Nat → Bool) → Bool} (hf : ∀ T, fits T = fits' (tb T)) (F : Nat) : ∀ m i C, okR (chN fits F m i C) (chP fits' (tb F) m i (tb C))
  | 0, _, C => ⟨rfl, hf C⟩
  | m + 1, _i, C => chNL_ok (chN_ok hf F m) C _
end Go.Proofs.Ytfbpgnjeafadmaa.Fl
