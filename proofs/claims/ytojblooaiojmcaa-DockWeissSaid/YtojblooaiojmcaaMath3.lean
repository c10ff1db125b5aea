/- Lists that serve all, counted by the carts that wish for the last bay. -/
import Derived.Test.YtojblooaiojmcaaEnds
namespace Go.Proofs.Ytojblooaiojmcaa
open Go Go.Proofs.Ytojblooaiojmcaa.AX

/-- A sum over all lists of k wishes below B. -/
def cs (B : Nat) : Nat → (List Nat → Nat) → Nat
  | 0, f => f []
  | k + 1, f => sW (fun x => cs B k fun w => f (x :: w)) B
theorem sW_congr2 {g h : Nat → Nat} : ∀ {n : Nat}, (∀ x, x < n → g x = h x) → sW g n = sW h n
  | 0, _ => rfl
  | n + 1, e => by rw [sW, sW, sW_congr2 fun x hx => e x (by omega), e n (by omega)]
theorem cs_congr {B : Nat} : ∀ {k : Nat} {f g : List Nat → Nat}, (∀ w, (∀ x ∈ w, x < B) → f w = g w) → cs B k f = cs B k g
  | 0, f, g, h => h [] (by simp)
  | k + 1, f, g, h => by
    rw [cs, cs]
    refine sW_congr2 fun x hx => cs_congr fun w hw => h _ ?_
    intro y hy
    rcases List.mem_cons.1 hy with rfl | hy
    · exact hx
    · exact hw y hy
theorem sW_zero : ∀ n, sW (fun _ => 0) n = 0
  | 0 => rfl
  | n + 1 => by rw [sW, sW_zero n]
theorem cs_zero {B : Nat} : ∀ {k : Nat}, cs B k (fun _ => 0) = 0
  | 0 => rfl
  | k + 1 => by simp only [cs, cs_zero, sW_zero]
theorem sW_add (g h : Nat → Nat) : ∀ n, sW (fun x => g x + h x) n = sW g n + sW h n
  | 0 => rfl
  | n + 1 => by rw [sW, sW, sW, sW_add g h n]; omega
theorem sW_mul (c : Nat) (g : Nat → Nat) : ∀ n, sW (fun x => c * g x) n = c * sW g n
  | 0 => rfl
  | n + 1 => by rw [sW, sW, sW_mul c g n, Nat.mul_add]
theorem sW_swap (g : Nat → Nat → Nat) (m : Nat) : ∀ n, sW (fun x => sW (g x) m) n = sW (fun y => sW (fun x => g x y) n) m
  | 0 => by simp only [sW, sW_zero]
  | n + 1 => by simp only [sW, sW_swap g m n, sW_add]
theorem sW_shift (g : Nat → Nat) : ∀ n, sW g (n + 1) = g 0 + sW (fun x => g (x + 1)) n
  | 0 => by simp [sW]
  | n + 1 => by rw [sW, sW_shift g n, sW]; omega
theorem cho_big : ∀ n k, n < k → cho n k = 0
  | 0, k + 1, _ => rfl
  | n + 1, k + 1, h => by rw [cho, cho_big n k (by omega), cho_big n (k + 1) (by omega)]
theorem cho_zero : ∀ n, cho n 0 = 1
  | 0 => rfl
  | _ + 1 => rfl

/-- By the carts that wish for bay B itself. -/
theorem cs_split (B : Nat) : ∀ (k : Nat) (g : Nat → List Nat → Nat), cs (B + 1) k (fun w => g (w.count B) (w.filter (· < B))) = sW (fun j => cho k j * cs B (k - j) (g j)) (k + 1)
  | 0, g => by simp [cs, sW, cho]
  | k + 1, g => by
    rw [cs, sW]
    have h1 : sW (fun x => cs (B + 1) k fun w => g ((x :: w).count B) ((x :: w).filter (· < B))) B = sW (fun x => sW (fun j => cho k j * cs B (k - j) (fun w => g j (x :: w))) (k + 1)) B := by
      refine sW_congr2 fun x hx => ?_
      rw [← cs_split B k fun j w => g j (x :: w)]
      congr 1
      funext w
      rw [List.count_cons_of_ne (by omega), List.filter_cons_of_pos (by simpa using hx)]
    have h2 : (cs (B + 1) k fun w => g ((B :: w).count B) ((B :: w).filter (· < B))) = sW (fun j => cho k j * cs B (k - j) (g (j + 1))) (k + 1) := by
      rw [← cs_split B k fun j w => g (j + 1) w]
      congr 1
      funext w
      rw [List.count_cons_self, List.filter_cons_of_neg (by simp)]
    rw [h1, h2, sW_swap]
    have h3 : sW (fun j => sW (fun x => cho k j * cs B (k - j) fun w => g j (x :: w)) B) (k + 1) = sW (fun j => cho k j * cs B (k + 1 - j) (g j)) (k + 1) := by
      refine sW_congr2 fun j hj => ?_
      rw [sW_mul, show k + 1 - j = (k - j) + 1 by omega, cs]
    rw [h3, sW_shift (fun j => cho (k + 1) j * cs B (k + 1 - j) (g j))]
    have h4 : sW (fun x => cho (k + 1) (x + 1) * cs B (k + 1 - (x + 1)) (g (x + 1))) (k + 1) = sW (fun x => cho k x * cs B (k - x) (g (x + 1))) (k + 1) + sW (fun x => cho k (x + 1) * cs B (k + 1 - (x + 1)) (g (x + 1))) (k + 1) := by
      rw [← sW_add]
      refine sW_congr2 fun x hx => ?_
      rw [cho, Nat.add_mul, show k + 1 - (x + 1) = k - x by omega]
    rw [h4]
    have h5 := sW_shift (fun j => cho k j * cs B (k + 1 - j) (g j)) (k + 1)
    rw [sW, cho_big k (k + 1) (by omega), Nat.zero_mul, Nat.add_zero] at h5
    rw [h5, cho_zero, cho_zero]
    omega

/-- The carts of l that wish for a bay from b on, below B. -/
def cr (l : List Nat) (b B : Nat) : Nat := l.countP fun x => decide (b ≤ x) && decide (x < B)
theorem cr_self (l : List Nat) (b : Nat) : cr l b b = 0 := by
  unfold cr
  rw [List.countP_eq_zero]
  intro x _
  simp
theorem cr_succ {b B : Nat} (h : b ≤ B) : ∀ l : List Nat, cr l b (B + 1) = cr l b B + l.count B
  | [] => rfl
  | x :: l => by
    have := cr_succ h l
    unfold cr at *
    rw [List.countP_cons, List.countP_cons, List.count_cons, this]
    have e : (if (decide (b ≤ x) && decide (x < B + 1)) = true then 1 else 0) = (if (decide (b ≤ x) && decide (x < B)) = true then 1 else 0) + (if (x == B) = true then 1 else 0) := by
      by_cases h1 : b ≤ x <;> by_cases h2 : x < B <;> by_cases h3 : x = B <;> simp [h1, h2, h3] <;> omega
    omega
theorem cr_top {n : Nat} (b : Nat) : ∀ {l : List Nat}, (∀ x ∈ l, x < n) → cr l b n = cnt l b := by
  intro l hl
  unfold cr cnt
  refine List.countP_congr fun x hx => ?_
  simp [hl x hx]
theorem cnt_filter {b B : Nat} (h : b ≤ B) : ∀ {w : List Nat}, (∀ x ∈ w, x < B + 1) → cnt w b = cnt (w.filter (· < B)) b + w.count B
  | [], _ => rfl
  | x :: w, hw => by
    have := cnt_filter h (w := w) fun y hy => hw y (List.mem_cons_of_mem _ hy)
    have hx := hw x (by simp)
    rw [cnt_cons, this, List.count_cons]
    by_cases h1 : x < B
    · have hne : (x == B) = false := by simp; omega
      rw [List.filter_cons_of_pos (by simpa using h1), cnt_cons, hne, if_neg Bool.false_ne_true]; omega
    · have : x = B := by omega
      subst this
      rw [List.filter_cons_of_neg (by simp), if_pos h, if_pos (by simp)]; omega
theorem cnt_below {B : Nat} (w : List Nat) : cnt (w.filter (· < B)) B = 0 := by
  unfold cnt
  rw [List.countP_eq_zero]
  intro x hx
  have := (List.mem_filter.1 hx).2
  simp at this
  simpa using this

def okE (n : Nat) (l : List Nat) (B a : Nat) (w : List Nat) : Prop := ∀ b, b < B → a + cr l b B + cnt w b ≤ n - b
instance (n : Nat) (l : List Nat) (B a : Nat) (w : List Nat) : Decidable (okE n l B a w) := by unfold okE; infer_instance
theorem okE_succ {n : Nat} {l : List Nat} {B a : Nat} {w : List Nat} (hw : ∀ x ∈ w, x < B + 1) :
    okE n l (B + 1) a w ↔ a + l.count B + w.count B ≤ n - B ∧ okE n l B (a + l.count B + w.count B) (w.filter (· < B)) := by
  constructor
  · intro h
    constructor
    · have := h B (by omega)
      rw [cr_succ (Nat.le_refl _), cr_self, cnt_filter (Nat.le_refl _) hw, cnt_below] at this
      omega
    · intro b hb
      have := h b (by omega)
      rw [cr_succ (by omega), cnt_filter (B := B) (by omega) hw] at this
      omega
  · rintro ⟨h1, h2⟩ b hb
    rw [cr_succ (by omega), cnt_filter (B := B) (by omega) hw]
    by_cases h3 : b = B
    · subst h3
      rw [cr_self, cnt_below]; omega
    · have := h2 b (by omega)
      omega
def gE (n : Nat) (l : List Nat) (B a j : Nat) (w : List Nat) : Nat := if a + l.count B + j ≤ n - B ∧ okE n l B (a + l.count B + j) w then 1 else 0
theorem endS_cs (n : Nat) (l : List Nat) : ∀ (B a k : Nat), endS n l B a k = cs B k fun w => if okE n l B a w then 1 else 0
  | 0, a, 0 => by
    rw [endS, cs, if_pos rfl, if_pos]
    intro b hb; omega
  | 0, a, k + 1 => by rw [endS, cs, if_neg (by omega)]; rfl
  | B + 1, a, k => by
    rw [endS]
    have h1 : (cs (B + 1) k fun w => if okE n l (B + 1) a w then 1 else 0) = cs (B + 1) k fun w => gE n l B a (w.count B) (w.filter (· < B)) := by
      refine cs_congr fun w hw => ?_
      have := okE_succ (n := n) (l := l) (a := a) hw
      by_cases h : okE n l (B + 1) a w
      · rw [if_pos h, gE, if_pos (this.1 h)]
      · rw [if_neg h, gE, if_neg (fun h' => h (this.2 h'))]
    rw [h1, cs_split B k (gE n l B a)]
    refine sW_congr2 fun j hj => ?_
    by_cases h : a + l.count B + j ≤ n - B
    · rw [if_pos h, endS_cs n l B _ _]
      congr 2
      funext w
      by_cases h2 : okE n l B (a + l.count B + j) w
      · rw [if_pos h2, gE, if_pos ⟨h, h2⟩]
      · rw [if_neg h2, gE, if_neg fun h' => h2 h'.2]
    · rw [if_neg h]
      rw [cs_congr (g := fun _ => 0) fun w _ => by rw [gE, if_neg fun h' => h h'.1], cs_zero, Nat.mul_zero]

/-- The set after a list. -/
def setL (n : Nat) : Nat → List Nat → Nat
  | s, [] => s
  | s, w :: l => setL n (nextSet n s w) l
theorem parkS_append (n : Nat) : ∀ (l w : List Nat) (s : Nat), parkS n s (l ++ w) = parkS n s l ++ parkS n (setL n s l) w
  | [], w, s => rfl
  | x :: l, w, s => by rw [List.cons_append, parkS, parkS, parkS_append n l w, setL, List.cons_append]
theorem setL_append (n : Nat) : ∀ (l w : List Nat) (s : Nat), setL n s (l ++ w) = setL n (setL n s l) w
  | [], w, s => rfl
  | x :: l, w, s => by rw [List.cons_append, setL, setL_append n l w, setL]
theorem tlF_cs (n : Nat) : ∀ (k s : Nat), tlF n k s = cs n k fun w => if -1 ∈ parkS n s w then 0 else 1
  | 0, s => by simp [tlF, cs, parkS]
  | k + 1, s => by
    rw [tlF, cs]
    refine sW_congr2 fun x hx => ?_
    by_cases h : ff s (n - x) x < n
    · rw [if_pos h, tlF_cs n k]
      congr 1
      funext w
      rw [parkS, nextSet, if_pos h, if_pos h]
      have : -1 ∈ ((ff s (n - x) x : Nat) : Int) :: parkS n (s ||| 2 ^ ff s (n - x) x) w ↔ -1 ∈ parkS n (s ||| 2 ^ ff s (n - x) x) w := by
        rw [List.mem_cons]
        constructor
        · rintro (h | h)
          · omega
          · exact h
        · exact .inr
      simp only [this]
    · rw [if_neg h]
      rw [cs_congr (g := fun _ => 0) fun w _ => if_pos (by rw [parkS, if_neg h]; simp), cs_zero]
/-- The reference's count is the table's. -/
theorem endS_tlF {n k : Nat} {l : List Nat} (hl : ∀ x ∈ l, x < n) : endS n l n 0 k = if -1 ∈ parkS n 0 l then 0 else tlF n k (setL n 0 l) := by
  rw [endS_cs]
  have h1 : (cs n k fun w => if okE n l n 0 w then 1 else 0) = cs n k fun w => if -1 ∈ parkS n 0 (l ++ w) then 0 else 1 := by
    refine cs_congr fun w hw => ?_
    have h2 : ∀ x ∈ l ++ w, x < n := fun x hx => by
      rcases List.mem_append.1 hx with h | h
      · exact hl x h
      · exact hw x h
    have h3 := away_iff n (l ++ w) 0 [] (.zero n) h2
    simp only [List.nil_append] at h3
    by_cases h : okE n l n 0 w
    · rw [if_pos h, if_neg]
      rw [h3]
      rintro ⟨a, ha, h4⟩
      have := h a ha
      rw [cr_top a hl] at this
      rw [cnt_append] at h4
      omega
    · rw [if_neg h, if_pos]
      rw [h3]
      refine Classical.byContradiction fun h5 => h fun b hb => ?_
      rw [cr_top b hl]
      refine Nat.le_of_not_lt fun h6 => h5 ⟨b, hb, ?_⟩
      rw [cnt_append]; omega
  rw [h1]
  by_cases h : -1 ∈ parkS n 0 l
  · rw [if_pos h, cs_congr (g := fun _ => 0) fun w _ => if_pos (by rw [parkS_append]; exact List.mem_append_left _ h), cs_zero]
  · rw [if_neg h, tlF_cs]
    refine cs_congr fun w _ => ?_
    rw [parkS_append]
    simp only [List.mem_append, h, false_or]
end Go.Proofs.Ytojblooaiojmcaa
