/- All plans of counts, one after the other, as a search finds them: how many, and which is the first one. Pure. -/
import Derived.Test.YtbimapbcpmeooaaCntM
import Derived.Test.YtbimapbcpmeooaaGalM
namespace Go.Proofs.Ytbimapbcpmeooaa.Cl
set_option linter.unusedVariables false
abbrev Tb := Nat × Nat
/-- The tables of sorter a with b and those behind; x are wanted; what is left of the counts before b, and from b on; f: what follows. -/
def row (a : Nat) (f : List Nat → List (List Tb)) : List Nat → Nat → Nat → List Nat → List (List Tb)
  | [], _, x, done => if x = 0 then f done else []
  | y :: todo, b, x, done => (if 0 < x ∧ 0 < y then (row a f todo (b + 1) (x - 1) (done ++ [y - 1])).map ((a, b) :: ·) else []) ++ row a f todo (b + 1) x (done ++ [y])
def sols : Nat → Nat → List Nat → List (List Tb)
  | 0, _, _ => [[]]
  | _ + 1, _, [] => [[]]
  | k + 1, a, x :: l => row a (sols k (a + 1)) l (a + 1) x []
theorem row_len (a : Nat) (f : List Nat → List (List Tb)) : ∀ (todo : List Nat) (b x : Nat) (done : List Nat), (row a f todo b x done).length = subs todo fun s m => if s = x then (f (done ++ m)).length else 0
  | [], b, x, done => by
    unfold row subs
    by_cases c : x = 0
    · simp [c]
    · have c' : ¬ (0 = x) := fun h => c h.symm
      simp [c, c']
  | y :: todo, b, x, done => by
    unfold row subs
    rw [List.length_append, row_len a f todo (b + 1) x]
    have e1 : (subs todo fun k m => if k = x then (f (done ++ y :: m)).length else 0) = subs todo fun s m => if s = x then (f (done ++ [y] ++ m)).length else 0 := subs_congr fun s m _ => by simp
    rw [e1, Nat.add_comm]
    congr 1
    by_cases cy : 0 < y
    · rw [if_pos cy]
      by_cases cx : 0 < x
      · rw [if_pos ⟨cx, cy⟩, List.length_map, row_len a f todo (b + 1) (x - 1)]
        refine subs_congr fun s m _ => ?_
        have : (s + 1 = x) = (s = x - 1) := propext (by omega)
        simp only [this]
        simp
      · rw [if_neg (fun h => cx h.1)]
        have : x = 0 := by omega
        subst this
        simp [subs_zero]
    · rw [if_neg cy, if_neg (fun h => cy h.2)]
      rfl
theorem sols_len : ∀ (k a : Nat) (l : List Nat), (sols k a l).length = cnt k l
  | 0, a, l => rfl
  | k + 1, a, [] => rfl
  | k + 1, a, x :: l => by
    unfold sols cnt
    rw [row_len]
    refine subs_congr fun s m _ => ?_
    simp [sols_len k]
/-- The sets of x places with a count left, those with the first place first. -/
def ss : Nat → List Nat → List (List Bool)
  | x, [] => if x = 0 then [[]] else []
  | x, y :: t => (if 0 < x ∧ 0 < y then (ss (x - 1) t).map (true :: ·) else []) ++ (ss x t).map (false :: ·)
def tk : List Bool → List Nat → List Nat
  | true :: T, y :: t => (y - 1) :: tk T t
  | false :: T, y :: t => y :: tk T t
  | _, _ => []
def wt (a : Nat) : Nat → List Bool → List Tb
  | _, [] => []
  | b, true :: T => (a, b) :: wt a (b + 1) T
  | b, false :: T => wt a (b + 1) T
def tr (T : List Bool) : Nat := T.countP id
theorem row_ss (a : Nat) (f : List Nat → List (List Tb)) : ∀ (todo : List Nat) (b x : Nat) (done : List Nat), row a f todo b x done = (ss x todo).flatMap fun T => (f (done ++ tk T todo)).map (wt a b T ++ ·)
  | [], b, x, done => by
    unfold row ss
    by_cases c : x = 0 <;> simp [c, tk, wt]
  | y :: todo, b, x, done => by
    unfold row ss
    rw [row_ss a f todo (b + 1) x, row_ss a f todo (b + 1) (x - 1), List.flatMap_append]
    congr 1
    · split
      · rw [List.map_flatMap, List.flatMap_map]
        congr 1
        funext T
        simp [tk, wt, List.map_map]
      · rfl
    · rw [List.flatMap_map]
      congr 1
      funext T
      simp [tk, wt]
theorem mem_ss : ∀ {x : Nat} {l : List Nat} {T : List Bool}, T ∈ ss x l ↔ T.length = l.length ∧ tr T = x ∧ ∀ i (h : i < T.length) (h' : i < l.length), T[i] = true → 0 < l[i]
  | x, [], T => by
    unfold ss
    by_cases c : x = 0
    · subst c
      constructor
      · intro h
        obtain rfl : T = [] := by simpa using h
        exact ⟨rfl, rfl, fun i h => by simp at h⟩
      · rintro ⟨h, _, _⟩
        obtain rfl := List.length_eq_zero_iff.1 h
        simp
    · rw [if_neg c]
      constructor
      · intro h; cases h
      · rintro ⟨h, h2, _⟩
        obtain rfl := List.length_eq_zero_iff.1 h
        exact absurd h2.symm c
  | x, y :: t, [] => by
    unfold ss
    constructor
    · intro h
      rcases List.mem_append.1 h with h | h
      · split at h
        · simp at h
        · cases h
      · simp at h
    · rintro ⟨h, _⟩; simp at h
  | x, y :: t, true :: T => by
    unfold ss
    have ih := mem_ss (x := x - 1) (l := t) (T := T)
    have e : true :: T ∈ (if 0 < x ∧ 0 < y then (ss (x - 1) t).map (true :: ·) else []) ++ (ss x t).map (false :: ·) ↔ (0 < x ∧ 0 < y) ∧ T ∈ ss (x - 1) t := by
      rw [List.mem_append]
      split
      · rename_i c
        simp [c]
      · rename_i c
        simp [c]
    rw [e, ih]
    have ht : tr (true :: T) = tr T + 1 := by simp [tr]
    rw [ht]
    constructor
    · rintro ⟨⟨h1, h2⟩, h3, h4, h5⟩
      refine ⟨by simp [h3], by omega, fun i h h' hT => ?_⟩
      cases i with
      | zero => exact h2
      | succ i => simp only [List.getElem_cons_succ] at hT ⊢; exact h5 i (by simpa using h) (by simpa using h') hT
    · rintro ⟨h1, h2, h3⟩
      refine ⟨⟨by omega, h3 0 (by simp) (by simp) rfl⟩, by simpa using h1, by omega, fun i h h' hT => ?_⟩
      have := h3 (i + 1) (by simpa using h) (by simpa using h') (by simpa using hT)
      simpa using this
  | x, y :: t, false :: T => by
    unfold ss
    have ih := mem_ss (x := x) (l := t) (T := T)
    have e : false :: T ∈ (if 0 < x ∧ 0 < y then (ss (x - 1) t).map (true :: ·) else []) ++ (ss x t).map (false :: ·) ↔ T ∈ ss x t := by
      rw [List.mem_append]
      split <;> simp
    rw [e, ih]
    have ht : tr (false :: T) = tr T := by simp [tr]
    rw [ht]
    constructor
    · rintro ⟨h3, h4, h5⟩
      refine ⟨by simp [h3], by omega, fun i h h' hT => ?_⟩
      cases i with
      | zero => cases hT
      | succ i => simp only [List.getElem_cons_succ] at hT ⊢; exact h5 i (by simpa using h) (by simpa using h') hT
    · rintro ⟨h1, h2, h3⟩
      refine ⟨by simpa using h1, by omega, fun i h h' hT => ?_⟩
      have := h3 (i + 1) (by simpa using h) (by simpa using h') (by simpa using hT)
      simpa using this
/-- The first place in which two sets differ is in the first one. -/
def ltB : List Bool → List Bool → Bool
  | true :: T, true :: S => ltB T S
  | false :: T, false :: S => ltB T S
  | true :: _, false :: _ => true
  | _, _ => false
theorem ltB_asym : ∀ {T S : List Bool}, ltB T S = true → ltB S T = false
  | [], _, h => by simp [ltB] at h
  | true :: T, [], h => by simp [ltB] at h
  | false :: T, [], h => by simp [ltB] at h
  | true :: T, true :: S, h => by unfold ltB at h ⊢; exact ltB_asym h
  | false :: T, false :: S, h => by unfold ltB at h ⊢; exact ltB_asym h
  | true :: T, false :: S, h => by simp [ltB]
  | false :: T, true :: S, h => by simp [ltB] at h
theorem ltB_total : ∀ {T S : List Bool}, T.length = S.length → T ≠ S → ltB T S = false → ltB S T = true
  | [], [], _, hn, _ => absurd rfl hn
  | [], _ :: _, h, _, _ => by simp at h
  | _ :: _, [], h, _, _ => by simp at h
  | true :: T, true :: S, h, hn, hl => by unfold ltB at hl ⊢; exact ltB_total (by simpa using h) (fun e => hn (e ▸ rfl)) hl
  | false :: T, false :: S, h, hn, hl => by unfold ltB at hl ⊢; exact ltB_total (by simpa using h) (fun e => hn (e ▸ rfl)) hl
  | true :: T, false :: S, h, hn, hl => by simp [ltB] at hl
  | false :: T, true :: S, h, hn, hl => by simp [ltB]
theorem ss_sorted : ∀ (x : Nat) (l : List Nat), (ss x l).Pairwise fun T S => ltB T S = true
  | x, [] => by unfold ss; split <;> simp
  | x, y :: t => by
    unfold ss
    rw [List.pairwise_append]
    refine ⟨?_, ?_, ?_⟩
    · split
      · rw [List.pairwise_map]
        exact (ss_sorted (x - 1) t).imp fun h => by unfold ltB; exact h
      · exact List.Pairwise.nil
    · rw [List.pairwise_map]
      exact (ss_sorted x t).imp fun h => by unfold ltB; exact h
    · intro T hT S hS
      split at hT
      · obtain ⟨T', _, rfl⟩ := List.mem_map.1 hT
        obtain ⟨S', _, rfl⟩ := List.mem_map.1 hS
        rfl
      · cases hT
/-- Lists of tables, one after the other. -/
def smP : List Tb → List Tb → Bool
  | p :: a, q :: b => if p.1 ≠ q.1 then decide (p.1 < q.1) else if p.2 ≠ q.2 then decide (p.2 < q.2) else smP a b
  | _, _ => false
theorem wt_len (a : Nat) : ∀ (b : Nat) (T : List Bool), (wt a b T).length = tr T
  | _, [] => rfl
  | b, true :: T => by simp [wt, wt_len a (b + 1) T, tr]
  | b, false :: T => by simp [wt, wt_len a (b + 1) T, tr]
theorem wt_ge (a : Nat) : ∀ (b : Nat) (T : List Bool), ∀ p ∈ wt a b T, p.1 = a ∧ b ≤ p.2 ∧ p.2 < b + T.length
  | _, [], p, h => by cases h
  | b, true :: T, p, h => by
    rcases List.mem_cons.1 h with rfl | h
    · exact ⟨rfl, Nat.le_refl _, by simp⟩
    · have := wt_ge a (b + 1) T p h
      exact ⟨this.1, by omega, by simp; omega⟩
  | b, false :: T, p, h => by
    have := wt_ge a (b + 1) T p h
    exact ⟨this.1, by omega, by simp; omega⟩
theorem smP_wt (a : Nat) : ∀ (b : Nat) (T S : List Bool), T.length = S.length → tr T = tr S → smP (wt a b T) (wt a b S) = ltB T S
  | b, [], [], _, _ => rfl
  | b, [], _ :: _, h, _ => by simp at h
  | b, _ :: _, [], h, _ => by simp at h
  | b, true :: T, true :: S, h, ht => by
    have ih := smP_wt a (b + 1) T S (by simpa using h) (by simp [tr] at ht ⊢; exact ht)
    simp [wt, smP, ltB, ih]
  | b, false :: T, false :: S, h, ht => by
    have ih := smP_wt a (b + 1) T S (by simpa using h) (by simp [tr] at ht ⊢; exact ht)
    simp [wt, ltB, ih]
  | b, true :: T, false :: S, h, ht => by
    cases hw : wt a (b + 1) S with
    | nil =>
      have := wt_len a (b + 1) S
      rw [hw] at this
      simp [tr] at ht this
      omega
    | cons p r =>
      have := wt_ge a (b + 1) S p (by rw [hw]; simp)
      simp only [wt, hw, smP, ltB, this.1]
      rw [if_neg (by simp), if_pos (by simp; omega)]
      simp; omega
  | b, false :: T, true :: S, h, ht => by
    cases hw : wt a (b + 1) T with
    | nil =>
      have := wt_len a (b + 1) T
      rw [hw] at this
      simp [tr] at ht this
      omega
    | cons p r =>
      have := wt_ge a (b + 1) T p (by rw [hw]; simp)
      simp only [wt, hw, smP, ltB, this.1]
      rw [if_neg (by simp), if_pos (by simp; omega)]
      simp; omega
/-- Whether counts can be, by the sums. -/
def canB (l : List Nat) : Bool := egB (srtD l)
theorem gallai8 {l : List Nat} (h8 : l.length ≤ 8) : real l ↔ canB l = true := by
  by_cases hl : ∀ x ∈ l, x < l.length
  · exact gallai h8 hl
  · have hx : ∃ x ∈ l, l.length ≤ x := Classical.byContradiction fun hc => hl fun x hx => by
      apply Classical.byContradiction
      intro hn
      exact hc ⟨x, hx, by omega⟩
    obtain ⟨x, hx, hge⟩ := hx
    constructor
    · rintro ⟨g, hg, hd⟩
      obtain ⟨v, hv, rfl⟩ := List.getElem_of_mem hx
      have h1 := hd v hv
      have h2 : deg l.length g v + 1 ≤ l.length := by
        unfold deg
        have h3 : (List.range l.length).countP (g v) + (List.range l.length).countP (fun u => !g v u) = l.length := by
          have := List.length_eq_countP_add_countP (g v) (l := List.range l.length)
          rw [List.length_range] at this
          have e : (fun u => !g v u) = fun u => decide (¬ g v u = true) := by funext u; cases g v u <;> rfl
          rw [e]
          exact this.symm
        have h4 : 0 < (List.range l.length).countP (fun u => !g v u) := List.countP_pos_iff.2 ⟨v, List.mem_range.2 hv, by simp [hg.irr]⟩
        omega
      omega
    · intro h
      exfalso
      unfold canB egB at h
      rw [Bool.and_eq_true, List.all_eq_true] at h
      have hp := srtD_perm l
      have hn : 0 < l.length := List.length_pos_of_mem hx
      have h1 := h.2 0 (List.mem_range.2 (by rw [hp.length_eq]; exact hn))
      have hxs := hp.mem_iff.2 hx
      have hds := srtD_dsc l
      revert h1 hxs hds
      have hln := hp.length_eq
      generalize srtD l = m at hln
      intro h1 hxs hds
      match m, hln, h1, hxs, hds with
      | [], _, _, hxs, _ => cases hxs
      | y :: m, hln, h1, hxs, hds =>
        have hy : x ≤ y := by
          rcases List.mem_cons.1 hxs with rfl | h
          · exact Nat.le_refl _
          · exact (List.pairwise_cons.1 hds).1 x h
        have h2 := Nat.le_of_ble_eq_true h1
        have h3 : ∀ t : List Nat, (t.map fun y => bif Nat.ble y 1 then y else 1).sum ≤ t.length := fun t => by
          induction t with
          | nil => simp
          | cons z t ih =>
            simp only [List.map_cons, List.sum_cons, List.length_cons]
            have : (bif Nat.ble z 1 then z else 1) ≤ 1 := by
              cases hz : Nat.ble z 1
              · simp
              · simpa using Nat.le_of_ble_eq_true hz
            omega
        have h4 := h3 m
        simp at h2 hln
        omega
theorem tk_len : ∀ {T : List Bool} {l : List Nat}, T.length = l.length → (tk T l).length = l.length
  | [], [], _ => rfl
  | [], _ :: _, h => by simp at h
  | _ :: _, [], h => by simp at h
  | true :: T, y :: t, h => by simp [tk, tk_len (T := T) (l := t) (by simpa using h)]
  | false :: T, y :: t, h => by simp [tk, tk_len (T := T) (l := t) (by simpa using h)]
/-- The tables of the first plan, as the first sorter's first set is chosen, then the next one's. -/
def bst (x : Nat) (l : List Nat) : List Bool := ((ss x l).find? fun T => canB (tk T l)).getD []
def mdd : Nat → Nat → List Nat → List Tb
  | 0, _, _ => []
  | _ + 1, _, [] => []
  | k + 1, a, x :: l => wt a (a + 1) (bst x l) ++ mdd k (a + 1) (tk (bst x l) l)
theorem sols_can {k a : Nat} {l : List Nat} (hk : l.length = k) (h8 : k ≤ 8) : sols k a l ≠ [] ↔ canB l = true := by
  rw [← gallai8 (by omega), ← cnt_real k l hk, ← sols_len k a l]
  exact ⟨fun h => List.length_pos_iff.2 h, fun h => List.length_pos_iff.1 h⟩
theorem head_flat {α β : Type} {f : α → List β} {p : α → Bool} : ∀ {l : List α}, (∀ x ∈ l, f x ≠ [] ↔ p x = true) → (l.flatMap f).head? = (l.find? p).bind fun x => (f x).head?
  | [], _ => rfl
  | x :: l, h => by
    rw [List.flatMap_cons, List.find?_cons]
    have hx := h x (by simp)
    cases hp : p x with
    | true =>
      have := hx.2 hp
      cases hf : f x with
      | nil => exact absurd hf this
      | cons y r => simp [hf]
    | false =>
      have : f x = [] := Classical.byContradiction fun hn => by rw [hx.1 hn] at hp; cases hp
      rw [this]
      exact head_flat (l := l) fun y hy => h y (by simp [hy])
theorem sols_head : ∀ (k a : Nat) (l : List Nat), l.length = k → k ≤ 8 → canB l = true → (sols k a l).head? = some (mdd k a l)
  | 0, a, l, _, _, _ => rfl
  | k + 1, a, [], h, _, _ => by simp at h
  | k + 1, a, x :: l, hk, h8, hc => by
    have hk' : l.length = k := by simpa using hk
    have hne := (sols_can (a := a) hk h8).2 hc
    rw [sols, row_ss] at hne
    rw [sols, mdd, row_ss]
    have hp : ∀ T ∈ ss x l, ((sols k (a + 1) ([] ++ tk T l)).map (wt a (a + 1) T ++ ·) ≠ [] ↔ canB (tk T l) = true) := fun T hT => by
      have hl := (mem_ss.1 hT).1
      rw [← sols_can (a := a + 1) (by rw [tk_len hl, hk']) (by omega)]
      simp
    rw [head_flat hp]
    cases hf : (ss x l).find? fun T => canB (tk T l) with
    | none =>
      exfalso
      apply hne
      rw [List.find?_eq_none] at hf
      rw [List.flatMap_eq_nil_iff]
      intro T hT
      have := hf T hT
      exact Classical.byContradiction fun hn => this ((hp T hT).1 hn)
    | some T =>
      have hm := List.mem_of_find?_eq_some hf
      have hct := List.find?_some hf
      have hb : bst x l = T := by unfold bst; rw [hf]; rfl
      rw [hb]
      have hl := (mem_ss.1 hm).1
      have ih := sols_head k (a + 1) (tk T l) (by rw [tk_len hl, hk']) (by omega) hct
      simp only [Option.bind_some, List.nil_append, List.head?_map, ih, Option.map_some]
/-- The first of all sets with what is wanted. -/
theorem bst_min {x : Nat} {l : List Nat} {T : List Bool} (h1 : T ∈ ss x l) (h2 : canB (tk T l) = true) (h3 : ∀ S ∈ ss x l, canB (tk S l) = true → S = T ∨ ltB T S = true) : bst x l = T := by
  unfold bst
  cases hf : (ss x l).find? fun T => canB (tk T l) with
  | none =>
    rw [List.find?_eq_none] at hf
    exact absurd h2 (hf T h1)
  | some S =>
    show S = T
    obtain ⟨hc, i, hi, hS, hb⟩ := List.find?_eq_some_iff_getElem.1 hf
    rcases h3 S (List.mem_of_find?_eq_some hf) hc with h | h
    · exact h
    · obtain ⟨j, hj, rfl⟩ := List.getElem_of_mem h1
      have hij : i ≤ j := by
        apply Classical.byContradiction
        intro hn
        have := hb j (by omega)
        rw [h2] at this
        cases this
      rcases Nat.lt_or_eq_of_le hij with hlt | rfl
      · have := (List.pairwise_iff_getElem.1 (ss_sorted x l)) i j hi hj hlt
        rw [hS] at this
        rw [ltB_asym this] at h
        cases h
      · exact hS.symm
end Go.Proofs.Ytbimapbcpmeooaa.Cl
