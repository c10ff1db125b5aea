/- Least, slices.Compare, and the first choice of bales. -/
import Derived.Test.YtfbpgnjeafadmaaOutM
namespace Go.Proofs.Ytfbpgnjeafadmaa.Fl
open Go Go.Proofs.Ytfbpgnjeafadmaa Go.Proofs.Ytfbpgnjeafadmaa.AX
set_option maxRecDepth 100000

theorem Least_q {r c : Nat} (hs : Sd r c) (H : AH) (Q : AV → AH → Prop) (h : Q (.tuple [.int .i64 ((r + c + 1) / 2 : Nat), .int .i64 0]) H) : AC Try.prog 34 [.int .i64 r, .int .i64 c] H Q := by
  have h2 : (1 ≤ (r : Int) ∧ (r : Int) ≤ 5) ∧ 1 ≤ (c : Int) ∧ (c : Int) ≤ 5 := ⟨⟨by have := hs.r1; omega, by have := hs.r5; omega⟩, by have := hs.c1; omega, by have := hs.c5; omega⟩
  have hlq := fun H Q hQ => least_q hs H Q hQ
  obtain ⟨d, hd⟩ : ∃ d, (r + c + 1) / 2 = d := ⟨_, rfl⟩
  rw [hd] at h hlq
  refine L_body 17 Try.func34 rfl rfl ?_
  refine L_reg [0, 1] (fun K hK => ?_)
  simp
  apply hK; clear hK K
  refine L_reg [0, 1, 6] (fun K hK => ?_)
  simp [okFn_low]
  refine checkSides_q r c _ _ ?_
  rw [if_pos h2]
  simp
  apply hK; clear hK K
  refine L_reg [0, 1, 6, 11] (fun K hK => ?_)
  simp
  apply hK; clear hK K
  refine L_false (by simp) ?_
  refine L_reg [4, 5] (fun K hK => ?_)
  simp [okFn_low]
  refine hlq _ _ ?_
  simp
  apply hK; clear hK K
  exact L_ret ⟨.inr rfl, _, rfl, h⟩
noncomputable def cmpR (x y : Nat) : Bool := match callN (runZ cx 300) 85 [.int .i64 (.ofNat x), .int .i64 (.ofNat y)] [] with
  | some (.int .i64 m, []) => ieq m (bif Nat.blt x y then -1 else bif Nat.blt y x then 1 else 0)
  | _ => false
theorem cmp_all : ((List.range 25).all fun x => (List.range 25).all fun y => cmpR x y) = true := by kernel_rfl
theorem cmp_q (x y : Nat) (hx : x < 25) (hy : y < 25) (H : AH) (Q : AV → AH → Prop) (h : Q (.int .i64 (if (x : Int) < y then -1 else if (y : Int) < x then 1 else 0)) H) : AC Try.prog 85 [.int .i64 x, .int .i64 y] H Q := by
  have h0 := List.all_eq_true.1 cmp_all x (List.mem_range.2 hx)
  have h1 := List.all_eq_true.1 h0 y (List.mem_range.2 hy)
  unfold cmpR at h1
  split at h1
  · rename_i m hm
    rw [ieq_eq, beq_iff_eq] at h1
    have e : m = if (x : Int) < y then -1 else if (y : Int) < x then 1 else 0 := by
      rw [h1]
      by_cases a : x < y
      · have : Nat.blt x y = true := by simpa [Nat.blt_eq] using a
        rw [this, if_pos (by omega)]; rfl
      · have : Nat.blt x y = false := by
          cases hb : Nat.blt x y with
          | false => rfl
          | true => exact absurd (by simpa [Nat.blt_eq] using hb) a
        rw [this, if_neg (by omega)]
        by_cases b : y < x
        · have : Nat.blt y x = true := by simpa [Nat.blt_eq] using b
          rw [this, if_pos (by omega)]; rfl
        · have : Nat.blt y x = false := by
            cases hb : Nat.blt y x with
            | false => rfl
            | true => exact absurd (by simpa [Nat.blt_eq] using hb) b
          rw [this, if_neg (by omega)]; rfl
    subst e
    exact AC_kernZ cx_ok 300 hm (.cons (.int ..) (.cons (.int ..) .nil)) (.int ..) h
  · cases h1
theorem lexI_drop : ∀ (i : Nat) (a b : List Int), a.take i = b.take i → i ≤ a.length → i ≤ b.length → lexI a b = lexI (a.drop i) (b.drop i)
  | 0, a, b, _, _, _ => rfl
  | i + 1, [], b, _, h, _ => by simp at h
  | i + 1, x :: a, [], _, _, h => by simp at h
  | i + 1, x :: a, y :: b, he, h1, h2 => by
    simp only [List.take_succ_cons, List.cons.injEq] at he
    obtain ⟨rfl, he⟩ := he
    rw [List.drop_succ_cons, List.drop_succ_cons, ← lexI_drop i a b he (by simpa using h1) (by simpa using h2)]
    simp [lexI]
theorem lexI_neg : ∀ a b : List Int, lexI a b = - lexI b a
  | [], [] => rfl
  | [], _ :: _ => rfl
  | _ :: _, [] => rfl
  | x :: a, y :: b => by
    simp only [lexI]
    by_cases h1 : x < y
    · rw [if_pos h1, if_neg (by omega), if_pos h1]
    · by_cases h2 : y < x
      · rw [if_neg h1, if_pos h2, if_pos h2]; rfl
      · rw [if_neg h1, if_neg h2, if_neg h2, if_neg h1, lexI_neg a b]
theorem Compare_q (u v : AV) (a b : List Int) (H : AH) (Q : AV → AH → Prop) (hu : Ls H u a) (hv : Ls H v b) (ha : ∀ x ∈ a, 0 ≤ x ∧ x < 25) (hb : ∀ x ∈ b, 0 ≤ x ∧ x < 25) (hl : a.length ≤ 25) (hl2 : b.length ≤ 25) (h : Q (.int .i64 (lexI a b)) H) : AC Try.prog 44 [u, v] H Q := by
  refine L_body 36 Try.func44 rfl rfl ?_
  have l1 := ls_len hu
  have l2 := ls_len hv
  refine L_reg [0, 1] (fun K hK => ?_)
  simp
  apply hK; clear hK K
  refine L_reg [0, 1, 9, 10, 11] (fun K hK => ?_)
  simp [l1]
  apply hK; clear hK K
  refine L_block (L_loopV [11] (fun q vs H' => ∃ i : Nat, q = a.length - i ∧ i ≤ a.length ∧ i ≤ b.length ∧ vs = [.int .i64 i] ∧ H = H' ∧ a.take i = b.take i) _ [.int .i64 (0 : Nat)] rfl ⟨0, rfl, by omega, by omega, rfl, rfl, rfl⟩ ?_)
  rintro q _ _ ⟨i, rfl, hi, hib, rfl, rfl, he⟩
  have hd := lexI_drop i a b he hi hib
  refine L_reg [0, 1, 9, 10, 11, 12] (fun K hK => ?_)
  simp
  apply hK; clear hK K
  refine L_dec (i < a.length) (by simp) (fun hlt => ?_) (fun hge => L_exit ?_)
  · refine L_block ?_
    obtain ⟨r1, p1, v1, x1, y1⟩ := ls_ix hu hlt
    refine L_reg [0, 1, 5, 6, 9, 10, 11] (fun K hK => ?_)
    simp [x1, y1]
    apply hK; clear hK K
    refine L_reg [0, 1, 5, 6, 9, 10, 11, 19] (fun K hK => ?_)
    simp [l2]
    apply hK; clear hK K
    by_cases hbl : b.length ≤ i
    · have : i = b.length := by omega
      rw [List.drop_eq_getElem_cons hlt, List.drop_of_length_le hbl] at hd
      simp only [lexI] at hd
      rw [hd] at h
      refine L_true (by simp [hbl]) ?_
      refine L_reg [4] (fun K hK => ?_)
      simp
      apply hK; clear hK K
      exact L_ret ⟨.inr rfl, _, rfl, h⟩
    · obtain ⟨r2, p2, v2, x2, y2⟩ := ls_ix hv (i := i) (by omega)
      rw [List.drop_eq_getElem_cons hlt, List.drop_eq_getElem_cons (show i < b.length by omega), ← g_lt hlt, ← g_lt (show i < b.length by omega)] at hd
      have ga := ha (g a i) (by rw [g_lt hlt]; simp)
      have gb := hb (g b i) (by rw [g_lt (show i < b.length by omega)]; simp)
      obtain ⟨x, hx⟩ : ∃ x : Nat, g a i = x := ⟨(g a i).toNat, by omega⟩
      obtain ⟨y, hy⟩ : ∃ y : Nat, g b i = y := ⟨(g b i).toNat, by omega⟩
      rw [hx, hy] at hd
      rw [hx] at y1
      rw [hy] at y2
      simp only [lexI] at hd
      have hcq := fun H Q hQ => cmp_q x y (by omega) (by omega) H Q hQ
      refine L_false (by simp; omega) ?_
      rw [hx]
      refine L_reg [0, 1, 6, 7, 9, 10, 11] (fun K hK => ?_)
      simp [x2, y2]
      apply hK; clear hK K
      refine L_reg [0, 1, 8, 9, 10, 11] (fun K hK => ?_)
      simp [okFn_low]
      refine hcq _ _ ?_
      simp
      apply hK; clear hK K
      by_cases c1 : (x : Int) < y
      · rw [if_pos c1] at hd
        have c1' : x < y := by omega
        rw [hd] at h
        refine L_reg [0, 1, 8, 9, 10, 11, 28] (fun K hK => ?_)
        simp [c1']
        apply hK; clear hK K
        refine L_true (by simp) ?_
        refine L_reg [4] (fun K hK => ?_)
        simp
        apply hK; clear hK K
        exact L_ret ⟨.inr rfl, _, rfl, h⟩
      · rw [if_neg c1] at hd
        have c1' : ¬ x < y := by omega
        by_cases c2 : (y : Int) < x
        · rw [if_pos c2] at hd
          have c2' : y < x := by omega
          rw [hd] at h
          refine L_reg [0, 1, 8, 9, 10, 11, 28] (fun K hK => ?_)
          simp [c1', c2']
          apply hK; clear hK K
          refine L_true (by simp) ?_
          refine L_reg [4] (fun K hK => ?_)
          simp
          apply hK; clear hK K
          exact L_ret ⟨.inr rfl, _, rfl, h⟩
        · have c2' : ¬ y < x := by omega
          refine L_reg [0, 1, 8, 9, 10, 11, 28] (fun K hK => ?_)
          simp [c1', c2']
          apply hK; clear hK K
          refine L_false (by simp) ?_
          refine L_reg [0, 1, 9, 10, 11] (fun K hK => ?_)
          simp [wrap_i64 (a := (i : Int) + 1) (by omega)]
          apply hK; clear hK K
          refine ⟨a.length - (i + 1), [.int .i64 (i + 1 : Nat)], by omega, by simp, i + 1, rfl, by omega, by omega, rfl, rfl, ?_⟩
          rw [List.take_add_one, List.take_add_one, he, List.getElem?_eq_getElem hlt, List.getElem?_eq_getElem (show i < b.length by omega), ← g_lt hlt, ← g_lt (show i < b.length by omega), hx, hy, show x = y by omega]
  · have e : i = a.length := by omega
    rw [e, List.drop_length] at hd
    refine L_reg [35] (fun K hK => ?_)
    simp [l1, l2]
    apply hK; clear hK K
    by_cases hll : a.length < b.length
    · rw [List.drop_eq_getElem_cons hll] at hd
      simp only [lexI] at hd
      rw [hd] at h
      refine L_true (by simp [hll]) ?_
      refine L_reg [4] (fun K hK => ?_)
      simp
      apply hK; clear hK K
      exact L_ret ⟨.inr rfl, _, rfl, h⟩
    · rw [List.drop_of_length_le (by omega)] at hd
      simp only [lexI] at hd
      rw [hd] at h
      refine L_false (by simp; omega) ?_
      refine L_reg [4] (fun K hK => ?_)
      simp
      apply hK; clear hK K
      exact L_ret ⟨.inr rfl, _, rfl, h⟩
/-- The list of a set. -/
def numN (S : Nat → Bool) : List Nat := (List.range 25).filter S
theorem num_numN (S : Nat → Bool) : num S = (numN S).map fun n : Nat => (n : Int) := rfl
theorem ascL_num {F S : Nat → Bool} (h : ∀ b, S b = true → F b = true) : AscL F 0 (numN S) := by
  have key : ∀ d i, i + d = 25 → AscL F i ((List.range' i d).filter S) := by
    intro d
    induction d with
    | zero => intro i _; exact trivial
    | succ d ih =>
      intro i hi
      rw [List.range'_succ, List.filter_cons]
      have r := ih (i + 1) (by omega)
      split
      · rename_i hs
        exact ⟨Nat.le_refl _, by omega, h i hs, r⟩
      · cases hl : (List.range' (i + 1) d).filter S with
        | nil => exact trivial
        | cons x l =>
          rw [hl] at r
          exact ⟨by have := r.1; omega, r.2⟩
  have := key 25 0 rfl
  rwa [← List.range_eq_range'] at this
theorem addL_iff : ∀ (l : List Nat) (C : Nat → Bool) (b : Nat), addL C l b = true ↔ C b = true ∨ b ∈ l
  | [], C, b => by simp [addL]
  | x :: l, C, b => by
    rw [addL, addL_iff l]
    unfold upd
    simp only [List.mem_cons]
    by_cases h : b = x
    · subst h; simp
    · simp [h]
theorem addL_num {S : Nat → Bool} (h : ∀ b, S b = true → b < 25) : addL none' (numN S) = S := by
  funext b
  have h1 := addL_iff (numN S) none' b
  have h2 : b ∈ numN S ↔ S b = true := by
    unfold numN
    rw [List.mem_filter, List.mem_range]
    exact ⟨fun h => h.2, fun h3 => ⟨h b h3, h3⟩⟩
  rw [h2] at h1
  cases hs : S b with
  | true => exact h1.2 (.inr hs)
  | false =>
    cases ha : addL none' (numN S) b with
    | false => rfl
    | true =>
      rcases h1.1 ha with h3 | h3
      · simp [none'] at h3
      · rw [hs] at h3; cases h3
theorem ascL_mem {F : Nat → Bool} : ∀ {l : List Nat} {i : Nat}, AscL F i l → ∀ b ∈ l, i ≤ b ∧ b < 25 ∧ F b = true
  | [], _, _, b, hb => by cases hb
  | x :: l, i, h, b, hb => by
    obtain ⟨h1, h2, h3, h4⟩ := h
    rcases List.mem_cons.1 hb with rfl | hb
    · exact ⟨h1, h2, h3⟩
    · obtain ⟨g1, g2, g3⟩ := ascL_mem h4 b hb
      exact ⟨by omega, g2, g3⟩
theorem num_addL {F : Nat → Bool} {l : List Nat} (h : AscL F 0 l) : numN (addL none' l) = l := by
  have key : ∀ d i (l : List Nat), i + d = 25 → AscL F i l → (List.range' i d).filter (fun b => decide (b ∈ l)) = l := by
    intro d
    induction d with
    | zero =>
      intro i l hi hA
      cases l with
      | nil => rfl
      | cons x l => have := hA.1; have := hA.2.1; omega
    | succ d ih =>
      intro i l hi hA
      rw [List.range'_succ, List.filter_cons]
      cases l with
      | nil =>
        simp
      | cons x l =>
        obtain ⟨h1, h2, h3, h4⟩ := hA
        by_cases hx : i = x
        · subst hx
          rw [if_pos (by simp)]
          congr 1
          refine Eq.trans (List.filter_congr fun b hb => ?_) (ih (i + 1) l (by omega) h4)
          have := (List.mem_range'_1.1 hb).1
          have hne : b ≠ i := by omega
          simp [hne]
        · have hni : ¬ i ∈ x :: l := by
            intro hm
            rcases List.mem_cons.1 hm with e | hm
            · exact hx e
            · have := (ascL_mem h4 i hm).1; omega
          rw [if_neg (by simpa using hni)]
          exact ih (i + 1) (x :: l) (by omega) ⟨by omega, h2, h3, h4⟩
  have h0 := key 25 0 l rfl h
  rw [← List.range_eq_range'] at h0
  unfold numN
  refine Eq.trans (List.filter_congr fun b hb => ?_) h0
  have h1 := addL_iff l none' b
  cases ha : addL none' l b with
  | true =>
    rcases h1.1 ha with h3 | h3
    · simp [none'] at h3
    · simp [h3]
  | false =>
    have : ¬ b ∈ l := fun h3 => by rw [h1.2 (.inr h3)] at ha; cases ha
    simp [this]
/-- From so many bales all are reached. -/
def wit : List Nat := [1, 3, 5, 11, 21, 3, 9, 35, 133, 523, 5, 19, 69, 267, 1045, 11, 73, 547, 4229, 33291, 21, 275, 4165, 65803, 1049621]
noncomputable def witB : Bool := (List.range' 1 5).all fun r => (List.range' 1 5).all fun c => forceN (wit.getD ((r - 1) * 5 + (c - 1)) 0) fun w => fitN r c (r * c) w && (Nat.blt w (2 ^ (r * c)) && Nat.beq ((List.range 25).filter fun b => w.testBit b).length ((r + c + 1) / 2))
theorem wit_all : witB = true := by kernel_rfl
theorem wit_ok {r c : Nat} (hs : Sd r c) : ∃ w, w < 2 ^ (r * c) ∧ fitP r c (r * c) (tb w) = true ∧ (numN (tb w)).length = (r + c + 1) / 2 := by
  have h := wit_all
  unfold witB at h
  rw [List.all_eq_true] at h
  have h1 := h r (by rw [List.mem_range'_1]; exact ⟨hs.r1, by have := hs.r5; omega⟩)
  rw [List.all_eq_true] at h1
  have h2 := h1 c (by rw [List.mem_range'_1]; exact ⟨hs.c1, by have := hs.c5; omega⟩)
  rw [forceN_eq] at h2
  simp only [Bool.and_eq_true, Nat.blt_eq] at h2
  refine ⟨_, h2.2.1, by rw [← fitN_ok]; exact h2.1, Nat.eq_of_beq_eq_true h2.2.2⟩
/-- What Plant returns. -/
theorem plant_is {r c n : Nat} (hs : Sd r c) (hn : r * c = n) : ∃ T : Nat → Bool, plantS r c n = num T ∧ (∀ b, T b = true → b < n) ∧ (num T).length = (r + c + 1) / 2 ∧ sp r c 2 (lt' n) T = lt' n ∧
    ∀ U : Nat → Bool, (∀ b, U b = true → b < n) → (num U).length = (r + c + 1) / 2 → sp r c 2 (lt' n) U = lt' n → 0 ≤ lexI (num U) (num T) := by
  subst hn
  have h25 := hs.le
  have fit_iff : ∀ U : Nat → Bool, (∀ b, U b = true → b < r * c) → (fitP r c (r * c) U = true ↔ sp r c 2 (lt' (r * c)) U = lt' (r * c)) := by
    intro U hU
    unfold fitP
    rw [all_eq]
    constructor
    · intro h
      funext b
      by_cases hb : b < 25
      · exact h b hb
      · have h1 : lt' (r * c) b = false := decide_eq_false (by omega)
        rw [h1]
        cases h2 : sp r c 2 (lt' (r * c)) U b with
        | false => rfl
        | true => have := sp_sup hU b h2; omega
    · intro h b _; rw [h]
  have cand : ∀ U : Nat → Bool, (∀ b, U b = true → b < r * c) → (num U).length = (r + c + 1) / 2 → sp r c 2 (lt' (r * c)) U = lt' (r * c) → _ := fun U hU hl hf =>
    chP_first (fitP r c (r * c)) (lt' (r * c)) ((r + c + 1) / 2) 0 none' (numN U) (by omega) (by rw [num_numN, List.length_map] at hl; exact hl) (ascL_num fun b hb => decide_eq_true (hU b hb)) (by rw [addL_num fun b hb => by have := hU b hb; omega]; exact (fit_iff U hU).2 hf)
  obtain ⟨w, hw1, hw2, hw3⟩ := wit_ok hs
  obtain ⟨g1, ts, g2, g3, g4, g5, -⟩ := cand (tb w) (tb_lt hw1) (by rw [num_numN, List.length_map]; exact hw3) ((fit_iff _ (tb_lt hw1)).1 hw2)
  have hT : ∀ b, addL none' ts b = true → b < r * c := by
    intro b hb
    rcases (addL_iff ts none' b).1 hb with h | h
    · simp [none'] at h
    · exact of_decide_eq_true (ascL_mem g3 b h).2.2
  have hnum : num (addL none' ts) = ts.map fun n : Nat => (n : Int) := by rw [num_numN, num_addL g3]
  refine ⟨addL none' ts, ?_, hT, by rw [hnum, List.length_map, g2], (fit_iff _ hT).1 g5, fun U hU hl hf => ?_⟩
  · unfold plantS
    rw [g4]
  · obtain ⟨-, ts', g2', g3', g4', -, g6'⟩ := cand U hU hl hf
    rw [g4] at g4'
    have : ts' = ts := by rw [← num_addL g3', ← num_addL g3, g4']
    rw [this, ← hnum, ← num_numN] at g6'
    rw [lexI_neg]
    omega
end Go.Proofs.Ytfbpgnjeafadmaa.Fl
