/- Divisions: the mathematics of labels and rooms. -/
import Derived.Test.YtjaefngmidllgaaTF
namespace Go.Proofs.Ytjaefngmidllgaa.St
open Go Go.Proofs.Ytjaefngmidllgaa Go.Proofs.Ytjaefngmidllgaa.AX
set_option linter.unusedVariables false
set_option linter.unusedSectionVars false
section
variable {K : Type} [BEq K] [LawfulBEq K]
/-- What was seen, with what comes. -/
def nubL (s : List K) : List K → List K
  | [] => s
  | k :: l => nubL (if s.contains k then s else s ++ [k]) l
/-- Rooms by the order in which keys are seen. -/
def dvL (s : List K) : List K → List Nat
  | [] => []
  | k :: l => s.idxOf k :: dvL (if s.contains k then s else s ++ [k]) l
def nub (l : List K) : List K := nubL [] l
def dv (l : List K) : List Nat := dvL [] l
theorem dvL_len : ∀ (l s : List K), (dvL s l).length = l.length
  | [], _ => rfl
  | k :: l, s => by simp [dvL, dvL_len l]
theorem dv_len (l : List K) : (dv l).length = l.length := dvL_len l []
theorem nubL_snoc : ∀ (l s : List K) (k : K), nubL s (l ++ [k]) = if (nubL s l).contains k then nubL s l else nubL s l ++ [k]
  | [], s, k => rfl
  | x :: l, s, k => by simp only [List.cons_append, nubL]; exact nubL_snoc l _ k
theorem dvL_snoc : ∀ (l s : List K) (k : K), dvL s (l ++ [k]) = dvL s l ++ [(nubL s l).idxOf k]
  | [], s, k => rfl
  | x :: l, s, k => by simp only [List.cons_append, dvL, nubL, dvL_snoc l _ k]
theorem nub_snoc (l : List K) (k : K) : nub (l ++ [k]) = if (nub l).contains k then nub l else nub l ++ [k] := nubL_snoc l [] k
theorem dv_snoc (l : List K) (k : K) : dv (l ++ [k]) = dv l ++ [(nub l).idxOf k] := dvL_snoc l [] k
theorem nubL_pre : ∀ (l s : List K), s <+: nubL s l
  | [], s => List.prefix_rfl
  | k :: l, s => by
    simp only [nubL]
    refine List.IsPrefix.trans ?_ (nubL_pre l _)
    split
    · exact List.prefix_rfl
    · exact List.prefix_append _ _
theorem nubL_nodup : ∀ (l s : List K), s.Nodup → (nubL s l).Nodup
  | [], s, h => h
  | k :: l, s, h => by
    simp only [nubL]
    refine nubL_nodup l _ ?_
    split
    · exact h
    · rename_i c
      rw [List.nodup_append]
      refine ⟨h, by simp, fun a ha b hb => ?_⟩
      simp at hb
      subst hb
      intro e
      subst e
      exact c (by simpa using ha)
theorem nubL_mem : ∀ (l s : List K) (x : K), x ∈ nubL s l ↔ x ∈ s ∨ x ∈ l
  | [], s, x => by simp [nubL]
  | k :: l, s, x => by
    simp only [nubL, nubL_mem l, List.mem_cons]
    split
    · rename_i c
      have : k ∈ s := by simpa using c
      constructor
      · rintro (h | h) <;> simp [h]
      · rintro (h | rfl | h)
        · exact .inl h
        · exact .inl this
        · exact .inr h
    · simp only [List.mem_append, List.mem_singleton]
      constructor
      · rintro ((h | h) | h) <;> simp [h]
      · rintro (h | h | h) <;> simp [h]
theorem dvL_map : ∀ (l s : List K), dvL s l = l.map (nubL s l).idxOf
  | [], s => rfl
  | k :: l, s => by
    simp only [dvL, nubL, List.map_cons]
    rw [dvL_map l]
    congr 1
    obtain ⟨t, ht⟩ := nubL_pre l (if s.contains k then s else s ++ [k])
    rw [← ht]
    by_cases c : k ∈ s
    · rw [if_pos (by simpa using c), List.idxOf_append, if_pos c]
    · rw [if_neg (by simpa using c), List.append_assoc, List.idxOf_append, if_neg c]
      simp [List.idxOf_eq_length c]
theorem dv_map (l : List K) : dv l = l.map (nub l).idxOf := dvL_map l []
theorem nub_nodup (l : List K) : (nub l).Nodup := nubL_nodup l [] .nil
theorem nub_mem (l : List K) (x : K) : x ∈ nub l ↔ x ∈ l := by unfold nub; rw [nubL_mem]; simp
theorem nub_len (l : List K) : (nub l).length ≤ l.length := by
  have : ∀ (l s : List K), (nubL s l).length ≤ s.length + l.length := by
    intro l
    induction l with
    | nil => intro s; simp [nubL]
    | cons k l ih =>
      intro s
      simp only [nubL]
      refine Nat.le_trans (ih _) ?_
      split <;> simp <;> omega
  simpa [nub] using this l []
theorem idx_inj {s : List K} {x y : K} (hx : x ∈ s) (h : s.idxOf x = s.idxOf y) : x = y := by
  have h1 := List.idxOf_lt_length_of_mem hx
  have e1 := List.getElem_idxOf h1
  have h2 : s.idxOf y < s.length := by rw [← h]; exact h1
  have e2 := List.getElem_idxOf h2
  rw [← e1, ← e2]
  congr 1
/-- Two boxes are in one room just if their keys are equal. -/
theorem dv_ker (l : List K) (i j : Nat) (hi : i < l.length) (hj : j < l.length) : (dv l)[i]'(by rw [dv_len]; exact hi) = (dv l)[j]'(by rw [dv_len]; exact hj) ↔ l[i] = l[j] := by
  simp only [dv_map, List.getElem_map]
  exact ⟨fun h => idx_inj ((nub_mem l _).2 (List.getElem_mem hi)) h, fun h => by rw [h]⟩
/-- The map of a division that is made: keys and their rooms. -/
def mpF (n : Nat) : List K → List (K × AV)
  | [] => []
  | k :: s => (k, .int .i64 (n : Int)) :: mpF (n + 1) s
theorem mpF_len : ∀ (s : List K) (n : Nat), (mpF n s).length = s.length
  | [], _ => rfl
  | k :: s, n => by simp [mpF, mpF_len s]
theorem mpF_look : ∀ (s : List K) (n : Nat) (k : K), (mpF n s).lookup k = if k ∈ s then some (.int .i64 ((n + s.idxOf k : Nat) : Int)) else none
  | [], _, _ => rfl
  | x :: s, n, k => by
    simp only [mpF, List.lookup_cons, mpF_look s, List.idxOf_cons, List.mem_cons]
    by_cases e : k = x
    · subst e; simp
    · have e1 : (k == x) = false := beq_eq_false_iff_ne.2 e
      have e2 : (x == k) = false := beq_eq_false_iff_ne.2 (fun h => e h.symm)
      have e3 : n + 1 + List.idxOf k s = n + (List.idxOf k s + 1) := by omega
      rw [e1, e2, e3]
      simp [e]
theorem mpF_mem : ∀ (s : List K) (n : Nat), ∀ p ∈ mpF n s, p.1 ∈ s
  | [], _, p, h => by simp [mpF] at h
  | x :: s, n, p, h => by
    simp only [mpF, List.mem_cons] at h
    rcases h with rfl | h
    · simp
    · simp [mpF_mem s _ p h]
end
theorem putL_new {v : AV} : ∀ (s : List Int) (n : Nat) (k : Int), k ∉ s → v = .int .i64 ((n + s.length : Nat) : Int) → putL k v (mpF n s) = mpF n (s ++ [k])
  | [], n, k, _, hv => by subst hv; simp [putL, mpF]
  | x :: s, n, k, h, hv => by
    have e1 : (k == x) = false := beq_eq_false_iff_ne.2 (fun e => h (by simp [e]))
    simp only [putL, mpF, List.cons_append, e1, Bool.false_eq_true, if_false]
    rw [putL_new s (n + 1) k (fun c => h (by simp [c])) (by rw [hv]; simp; omega)]
theorem putLA_new {v : AV} : ∀ (s : List (List Int)) (n : Nat) (k : List Int), k ∉ s → v = .int .i64 ((n + s.length : Nat) : Int) → putLA k v (mpF n s) = mpF n (s ++ [k])
  | [], n, k, _, hv => by subst hv; simp [putLA, mpF]
  | x :: s, n, k, h, hv => by
    have e1 : (k == x) = false := beq_eq_false_iff_ne.2 (fun e => h (by simp [e]))
    simp only [putLA, mpF, List.cons_append, e1, Bool.false_eq_true, if_false]
    rw [putLA_new s (n + 1) k (fun c => h (by simp [c])) (by rw [hv]; simp; omega)]
/-- Each number is at most one more than the greatest before it. -/
def rg : Nat → List Nat → Bool
  | _, [] => true
  | m, x :: l => decide (x ≤ m) && rg (if x = m then m + 1 else m) l
theorem rg_dvL {K : Type} [BEq K] [LawfulBEq K] : ∀ (l s : List K), rg s.length (dvL s l) = true
  | [], s => rfl
  | k :: l, s => by
    simp only [dvL, rg, Bool.and_eq_true, decide_eq_true_eq]
    refine ⟨List.idxOf_le_length, ?_⟩
    by_cases c : k ∈ s
    · rw [if_neg (by have := List.idxOf_lt_length_of_mem c; omega), if_pos (by simpa using c)]
      exact rg_dvL l s
    · rw [if_pos (List.idxOf_eq_length c), if_neg (by simpa using c)]
      simpa using rg_dvL l (s ++ [k])
theorem rg_dv {K : Type} [BEq K] [LawfulBEq K] (l : List K) : rg 0 (dv l) = true := rg_dvL l []
/-- A division is the only one of its kernel. -/
theorem dvL_eq {K : Type} [BEq K] [LawfulBEq K] : ∀ (ps : List (K × Nat)) (s : List K), s.Nodup → (∀ p ∈ ps, ∀ h : p.2 < s.length, s[p.2] = p.1) → (∀ p ∈ ps, s.length ≤ p.2 → p.1 ∉ s) → (∀ p ∈ ps, ∀ q ∈ ps, p.1 = q.1 ↔ p.2 = q.2) → rg s.length (ps.map (·.2)) = true → dvL s (ps.map (·.1)) = ps.map (·.2)
  | [], _, _, _, _, _, _ => rfl
  | (k, x) :: ps, s, hs, h1, h2, h3, h4 => by
    simp only [List.map_cons, dvL, rg, Bool.and_eq_true, decide_eq_true_eq] at h4 ⊢
    by_cases c : x < s.length
    · have e1 := h1 (k, x) (by simp) c
      simp only at e1
      have hk : k ∈ s := by rw [← e1]; exact List.getElem_mem c
      have e2 : s.idxOf k = x := by rw [← e1]; exact List.Nodup.idxOf_getElem hs x c
      rw [if_pos (by simpa using hk), e2]
      rw [if_neg (by omega)] at h4
      rw [dvL_eq ps s hs (fun p hp => h1 p (by simp [hp])) (fun p hp => h2 p (by simp [hp])) (fun p hp q hq => h3 p (by simp [hp]) q (by simp [hq])) h4.2]
    · have ex : x = s.length := by omega
      subst ex
      have hk : k ∉ s := h2 (k, s.length) (by simp) (Nat.le_refl _)
      rw [if_neg (by simpa using hk), List.idxOf_eq_length hk]
      rw [if_pos rfl] at h4
      rw [dvL_eq ps (s ++ [k]) ?_ (fun p hp h => ?_) (fun p hp h => ?_) (fun p hp q hq => h3 p (by simp [hp]) q (by simp [hq])) (by simpa using h4.2)]
      · rw [List.nodup_append]
        refine ⟨hs, by simp, fun a ha b hb => ?_⟩
        simp at hb
        subst hb
        exact fun e => hk (e ▸ ha)
      · by_cases c2 : p.2 < s.length
        · rw [List.getElem_append_left c2]; exact h1 p (by simp [hp]) c2
        · have e : p.2 = s.length := by simp at h; omega
          have := (h3 p (by simp [hp]) (k, s.length) (by simp)).2 e
          simp only at this
          simp [e, this]
      · simp at h
        simp only [List.mem_append, List.mem_singleton, not_or]
        refine ⟨h2 p (by simp [hp]) (by omega), fun e => ?_⟩
        have := (h3 p (by simp [hp]) (k, s.length) (by simp)).1 e
        simp only at this
        omega
theorem dv_eq {K : Type} [BEq K] [LawfulBEq K] (l : List K) (d : List Nat) (hl : l.length = d.length) (hr : rg 0 d = true) (h : ∀ i j, ∀ hi : i < l.length, ∀ hj : j < l.length, l[i] = l[j] ↔ d[i]'(hl ▸ hi) = d[j]'(hl ▸ hj)) : dv l = d := by
  have e1 : (l.zip d).map (·.1) = l := List.map_fst_zip (by omega)
  have e2 : (l.zip d).map (·.2) = d := List.map_snd_zip (by omega)
  have := dvL_eq (l.zip d) [] .nil (fun p _ h => by simp at h) (fun p _ _ => by simp) (fun p hp q hq => ?_) (by rw [e2]; exact hr)
  · rw [e1, e2] at this; exact this
  · obtain ⟨i, hi, rfl⟩ := List.getElem_of_mem hp
    obtain ⟨j, hj, rfl⟩ := List.getElem_of_mem hq
    simp only [List.length_zip] at hi hj
    simp only [List.getElem_zip]
    exact h i j (by omega) (by omega)
/-- Equal kernels, equal divisions. -/
theorem dv_congr {K L : Type} [BEq K] [LawfulBEq K] [BEq L] [LawfulBEq L] (l : List K) (m : List L) (hl : l.length = m.length) (h : ∀ i j, ∀ hi : i < l.length, ∀ hj : j < l.length, l[i] = l[j] ↔ m[i]'(hl ▸ hi) = m[j]'(hl ▸ hj)) : dv l = dv m := by
  refine dv_eq l (dv m) (by rw [dv_len, hl]) (rg_dv m) fun i j hi hj => ?_
  rw [dv_ker m i j (hl ▸ hi) (hl ▸ hj)]
  exact h i j hi hj
theorem dv_self (d : List Nat) (h : rg 0 d = true) : dv d = d := dv_eq d d rfl h fun _ _ _ _ => .rfl
/-- The rooms that are begun. -/
def opn : Nat → List Nat → Nat
  | m, [] => m
  | m, x :: l => opn (if x = m then m + 1 else m) l
theorem opn_snoc : ∀ (l : List Nat) (m x : Nat), opn m (l ++ [x]) = if x = opn m l then opn m l + 1 else opn m l
  | [], _, _ => rfl
  | y :: l, m, x => by simp only [List.cons_append, opn]; exact opn_snoc l _ x
theorem rg_snoc : ∀ (l : List Nat) (m x : Nat), rg m (l ++ [x]) = (rg m l && decide (x ≤ opn m l))
  | [], m, x => by show (decide (x ≤ m) && true) = (true && decide (x ≤ m)); rw [Bool.and_true, Bool.true_and]
  | y :: l, m, x => by show (decide (y ≤ m) && rg _ (l ++ [x])) = ((decide (y ≤ m) && rg _ l) && decide (x ≤ opn _ l)); rw [rg_snoc l, Bool.and_assoc]
theorem opn_ge : ∀ (l : List Nat) (m : Nat), m ≤ opn m l
  | [], _ => Nat.le_refl _
  | x :: l, m => by simp only [opn]; refine Nat.le_trans ?_ (opn_ge l _); split <;> omega
theorem opn_le : ∀ (l : List Nat) (m : Nat), opn m l ≤ m + l.length
  | [], _ => Nat.le_refl _
  | x :: l, m => by simp only [opn, List.length_cons]; refine Nat.le_trans (opn_le l _) ?_; split <;> omega
theorem rg_lt : ∀ (l : List Nat) (m : Nat), rg m l = true → ∀ x ∈ l, x < opn m l
  | [], _, _, x, h => by simp at h
  | y :: l, m, h, x, hx => by
    simp only [rg, Bool.and_eq_true, decide_eq_true_eq, opn] at h ⊢
    rcases List.mem_cons.1 hx with rfl | hx
    · have := opn_ge l (if x = m then m + 1 else m)
      split at this <;> split <;> omega
    · exact rg_lt l _ h.2 x hx
theorem rg_app : ∀ (l l2 : List Nat) (m : Nat), rg m (l ++ l2) = (rg m l && rg (opn m l) l2)
  | [], l2, m => by simp [rg, opn]
  | y :: l, l2, m => by simp only [List.cons_append, rg, opn, rg_app l, Bool.and_assoc]
theorem opn_app : ∀ (l l2 : List Nat) (m : Nat), opn m (l ++ l2) = opn (opn m l) l2
  | [], l2, m => rfl
  | y :: l, l2, m => by simp only [List.cons_append, opn, opn_app l]
theorem rg_take {m i : Nat} {d : List Nat} (h : rg m d = true) : rg m (d.take i) = true := by
  have := rg_app (d.take i) (d.drop i) m
  rw [List.take_append_drop, h] at this
  simp at this
  exact this.1
/-- The greatest number and one more, as the reference counts. -/
theorem opn_max (l : List Nat) (h : rg 0 l = true) : l.foldl (fun a x => max a (x + 1)) 0 = opn 0 l := by
  have : ∀ (l : List Nat) (m : Nat), rg m l = true → l.foldl (fun a x => max a (x + 1)) m = opn m l := by
    intro l
    induction l with
    | nil => intro m _; rfl
    | cons y l ih =>
      intro m h
      simp only [rg, Bool.and_eq_true, decide_eq_true_eq] at h
      simp only [List.foldl_cons, opn]
      rw [← ih _ h.2]
      congr 1
      split <;> omega
  exact this l 0 h
end Go.Proofs.Ytjaefngmidllgaa.St
