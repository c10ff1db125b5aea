/- Trios, counted by the counts alone (Goodman). Pure. -/
import Derived.Test.YtbimapbcpmeooaaHavM
namespace Go.Proofs.Ytbimapbcpmeooaa.Cl
set_option linter.unusedVariables false
def sm : Nat → (Nat → Nat) → Nat
  | 0, _ => 0
  | n + 1, f => sm n f + f n
theorem sm_congr : ∀ {n : Nat} {f g : Nat → Nat}, (∀ i, i < n → f i = g i) → sm n f = sm n g
  | 0, f, g, _ => rfl
  | n + 1, f, g, h => by unfold sm; rw [sm_congr fun i hi => h i (by omega), h n (by omega)]
theorem sm_add : ∀ (n : Nat) (f g : Nat → Nat), sm n (fun i => f i + g i) = sm n f + sm n g
  | 0, _, _ => rfl
  | n + 1, f, g => by
    show sm n (fun i => f i + g i) + (f n + g n) = (sm n f + f n) + (sm n g + g n)
    rw [sm_add n f g]; omega
theorem sm_zero : ∀ n : Nat, sm n (fun _ => 0) = 0
  | 0 => rfl
  | n + 1 => sm_zero n
theorem sm_cmul (c : Nat) : ∀ (n : Nat) (f : Nat → Nat), sm n (fun i => c * f i) = c * sm n f
  | 0, _ => rfl
  | n + 1, f => by
    show sm n (fun i => c * f i) + c * f n = c * (sm n f + f n)
    rw [sm_cmul c n f, Nat.mul_add]
theorem sm_mul : ∀ (n : Nat) (m : Nat) (f h : Nat → Nat), sm n f * sm m h = sm n fun u => sm m fun w => f u * h w
  | 0, m, f, h => by simp [sm]
  | n + 1, m, f, h => by
    show (sm n f + f n) * sm m h = sm n (fun u => sm m fun w => f u * h w) + sm m fun w => f n * h w
    rw [Nat.add_mul, sm_mul n m f h, sm_cmul]
theorem sm_pair (G : Nat → Nat → Nat) (h : ∀ u, G u u = 0) : ∀ n, sm n (fun u => sm n (G u)) = sm n fun w => sm w fun u => G u w + G w u
  | 0 => rfl
  | n + 1 => by
    show sm n (fun u => sm n (G u) + G u n) + (sm n (G n) + G n n) = sm n (fun w => sm w fun u => G u w + G w u) + sm n fun u => G u n + G n u
    rw [sm_add, sm_add n (fun u => G u n) (G n), sm_pair G h n, h n]
    omega
theorem sm_tri (F : Nat → Nat → Nat → Nat) (h1 : ∀ a b, F a a b = 0) (h2 : ∀ a b, F a b a = 0) (h3 : ∀ a b, F a b b = 0) : ∀ n, sm n (fun v => sm n fun u => sm n (F v u)) = sm n fun c => sm c fun b => sm b fun a => (F a b c + F b a c) + (F a c b + F b c a) + (F c a b + F c b a)
  | 0 => rfl
  | n + 1 => by
    have e1 : ∀ v, sm (n + 1) (fun u => sm (n + 1) (F v u)) = sm n (fun u => sm n (F v u)) + sm n (fun u => F v u n) + sm n (F v n) := fun v => by
      show sm n (fun u => sm n (F v u) + F v u n) + (sm n (F v n) + F v n n) = _
      rw [sm_add, h3]; omega
    have e2 : sm (n + 1) (fun u => sm (n + 1) (F n u)) = sm n (fun u => sm n (F n u)) := by
      rw [e1 n]
      have : sm n (fun u => F n u n) = 0 := by rw [← sm_zero n]; exact sm_congr fun i _ => h2 n i
      have h : sm n (F n n) = 0 := by rw [← sm_zero n]; exact sm_congr fun i _ => h1 n i
      omega
    show sm n (fun v => sm (n + 1) fun u => sm (n + 1) (F v u)) + sm (n + 1) (fun u => sm (n + 1) (F n u)) = sm n (fun c => sm c fun b => sm b fun a => (F a b c + F b a c) + (F a c b + F b c a) + (F c a b + F c b a)) + sm n fun b => sm b fun a => (F a b n + F b a n) + (F a n b + F b n a) + (F n a b + F n b a)
    rw [e2, sm_congr fun v _ => e1 v, sm_add, sm_add, sm_tri F h1 h2 h3 n,
      sm_pair (fun v u => F v u n) (fun u => h1 u n) n, sm_pair (fun v u => F v n u) (fun u => h2 u n) n, sm_pair (fun u w => F n u w) (fun u => h3 n u) n]
    rw [Nat.add_assoc, Nat.add_assoc, ← Nat.add_assoc (sm n _) (sm n _) (sm n _), ← sm_add, ← sm_add]
    congr 1
    refine sm_congr fun b _ => ?_
    rw [← sm_add, ← sm_add]
theorem cnt_sm (p : Nat → Bool) : ∀ n, (List.range n).countP p = sm n fun u => if p u then 1 else 0
  | 0 => rfl
  | n + 1 => by
    rw [List.range_succ, List.countP_append, cnt_sm p n]
    simp [sm]
/-- A trio that is neither all nor none. -/
def mix (g : Nat → Nat → Bool) (a b c : Nat) : Nat := if g a b == g a c && g a c == g b c then 0 else 1
theorem goodman {g : Nat → Nat → Bool} (hg : Gr g) (n : Nat) : (sm n fun v => deg n g v * (n - 1 - deg n g v)) = 2 * sm n fun c => sm c fun b => sm b fun a => mix g a b c := by
  have hco : ∀ v, v < n → n - 1 - deg n g v = sm n fun w => if !(g v w) && decide (w ≠ v) then 1 else 0 := fun v hv => by
    have h1 : (sm n fun u => if g v u then 1 else 0) + (sm n fun w => if !(g v w) && decide (w ≠ v) then 1 else 0) + (sm n fun w => if w = v then 1 else 0) = n := by
      rw [← sm_add, ← sm_add]
      have : ∀ m, sm m (fun _ => 1) = m := fun m => by induction m with | zero => rfl | succ m ih => simp [sm, ih]
      refine Eq.trans (sm_congr fun i _ => ?_) (this n)
      by_cases c : i = v
      · subst c; simp [hg.irr]
      · cases h : g v i <;> simp [c]
    have h2 : ∀ m, v < m → (sm m fun w => if w = v then 1 else 0) = 1 := by
      intro m
      induction m with
      | zero => intro h; omega
      | succ m ih =>
        intro h
        show (sm m fun w => if w = v then 1 else 0) + (if m = v then 1 else 0) = 1
        by_cases c : m = v
        · rw [if_pos c]
          have : (sm m fun w => if w = v then 1 else 0) = 0 := (sm_congr fun i hi => if_neg (by omega)).trans (sm_zero m)
          omega
        · rw [ih (by omega), if_neg c]
    unfold deg
    rw [cnt_sm, h2 n hv] at *
    omega
  let F : Nat → Nat → Nat → Nat := fun v u w => (if g v u then 1 else 0) * (if !(g v w) && decide (w ≠ v) then 1 else 0)
  have e : (sm n fun v => deg n g v * (n - 1 - deg n g v)) = sm n fun v => sm n fun u => sm n (F v u) := sm_congr fun v hv => by
    rw [hco v hv]
    unfold deg
    rw [cnt_sm, sm_mul]
  rw [e, sm_tri F (fun a b => by simp [F, hg.irr]) (fun a b => by simp [F]) (fun a b => by cases h : g a b <;> simp [F, h]) n, ← sm_cmul]
  refine sm_congr fun c _ => ?_
  rw [← sm_cmul]
  refine sm_congr fun b hb => ?_
  rw [← sm_cmul]
  refine sm_congr fun a ha => ?_
  have n1 : a ≠ b := by omega
  have n2 : a ≠ c := by omega
  have n3 : b ≠ c := by omega
  simp only [F, mix, hg.sym b a, hg.sym c a, hg.sym c b]
  cases g a b <;> cases g a c <;> cases g b c <;> simp [n1, n2, n3, Ne.symm n1, Ne.symm n2, Ne.symm n3]
/-- All trios. -/
theorem trios_all : ∀ n, n ≤ 8 → (sm n fun c => sm c fun b => sm b fun _ => 1) = n * (n - 1) * (n - 2) / 6 := by decide
end Go.Proofs.Ytbimapbcpmeooaa.Cl
