/- Havel's and Hakimi's way to tell whether there is a plan of counts (pure). -/
import Derived.Test.YtbimapbcpmeooaaRelM
namespace Go.Proofs.Ytbimapbcpmeooaa.Cl
set_option linter.unusedVariables false
/-- The greatest ones first. -/
def insD (x : Nat) : List Nat → List Nat
  | [] => [x]
  | y :: l => if y ≤ x then x :: y :: l else y :: insD x l
def srtD : List Nat → List Nat
  | [] => []
  | x :: l => insD x (srtD l)
theorem insD_perm (x : Nat) : ∀ l : List Nat, (insD x l).Perm (x :: l)
  | [] => .refl _
  | y :: l => by
    unfold insD
    split
    · exact .refl _
    · exact ((insD_perm x l).cons y).trans (.swap x y l)
theorem srtD_perm : ∀ l : List Nat, (srtD l).Perm l
  | [] => .refl _
  | x :: l => (insD_perm x (srtD l)).trans ((srtD_perm l).cons x)
abbrev Dsc (l : List Nat) : Prop := l.Pairwise (· ≥ ·)
theorem insD_dsc (x : Nat) : ∀ {l : List Nat}, Dsc l → Dsc (insD x l)
  | [], _ => by simp [insD, Dsc]
  | y :: l, h => by
    obtain ⟨h1, h2⟩ := List.pairwise_cons.1 h
    unfold insD
    split
    · rename_i c
      refine List.pairwise_cons.2 ⟨fun z hz => ?_, h⟩
      rcases List.mem_cons.1 hz with rfl | hz
      · exact c
      · have := h1 z hz; omega
    · rename_i c
      refine List.pairwise_cons.2 ⟨fun z hz => ?_, insD_dsc x h2⟩
      rcases List.mem_cons.1 ((insD_perm x l).mem_iff.1 hz) with rfl | hz
      · omega
      · exact h1 z hz
theorem srtD_dsc : ∀ l : List Nat, Dsc (srtD l)
  | [] => .nil
  | x :: l => insD_dsc x (srtD_dsc l)
/-- What is left when the first one sits with the next x. -/
def left (x : Nat) (l : List Nat) : List Nat := (l.take x).map (· - 1) ++ l.drop x
def tT (x : Nat) (i : Nat) : Bool := decide (1 ≤ i) && decide (i ≤ x)
theorem cnt_tT (x : Nat) : ∀ n, x ≤ n → (List.range (n + 1)).countP (tT x) = x := by
  have h : ∀ n, (List.range n).countP (fun i => decide (i < x)) = min n x := by
    intro n
    induction n with
    | zero => simp
    | succ n ih =>
      rw [List.range_succ, List.countP_append, ih]
      by_cases c : n < x <;> simp [c] <;> omega
  intro n hn
  have e : (fun i => tT x (i + 1)) = fun i => decide (i < x) := by
    funext i
    unfold tT
    rw [Bool.eq_iff_iff]
    simp only [Bool.and_eq_true, decide_eq_true_eq]
    omega
  rw [cnt_succ, e, h]
  simp [tT]; omega
theorem take1_left {x : Nat} {l : List Nat} {T : Nat → Bool} (h : ∀ i, i < l.length + 1 → T i = tT x i) : take1 T l = left x l := by
  apply List.ext_getElem
  · simp [take1, left]; omega
  · intro i h1 h2
    have hi : i < l.length := by simpa [take1] using h1
    simp only [take1, List.getElem_map, List.getElem_range, List.getD_eq_getElem?_getD, List.getElem?_eq_getElem hi, Option.getD_some]
    rw [h (i + 1) (by omega)]
    have e0 : ∀ (m : List Nat) (hm : m = left x l) (h3 : i < m.length), (left x l)[i] = m[i] := fun m hm h3 => by subst hm; rfl
    rw [e0 ((l.take x).map (· - 1) ++ l.drop x) rfl (by simp; omega)]
    by_cases c : i < x
    · rw [List.getElem_append_left (by simp; omega)]
      simp [tT, show i + 1 ≤ x by omega]
    · rw [List.getElem_append_right (by simp; omega)]
      simp only [List.getElem_drop, List.length_map, List.length_take]
      have e : x + (i - min x l.length) = i := by omega
      simp only [e]
      simp [tT, show ¬ (i + 1 ≤ x) by omega]
/-- One of any count sits with those of the greatest counts among the others. -/
theorem hak {x : Nat} {l : List Nat} (hs : Dsc l) : real (x :: l) ↔ x ≤ l.length ∧ (∀ i (hi : i < l.length), i < x → 0 < l[i]) ∧ real (left x l) := by
  constructor
  · rintro ⟨g, hg, hd⟩
    have hx : (List.range (l.length + 1)).countP (g 0) = x := (real_tail hg hd).2.1
    have hle : x ≤ l.length := by
      rw [← hx, cnt_succ, hg.irr]
      have := List.countP_le_length (p := fun i => g 0 (i + 1)) (l := List.range l.length)
      simp at this ⊢
      exact this
    have hct := cnt_tT x l.length hle
    have hdg : deg (l.length + 1) g 0 = x := hx
    have hlen : (x :: l).length = l.length + 1 := rfl
    obtain ⟨g', h1, h2, h3⟩ := hav (n := l.length + 1) (s := 0) (T := tT x) (by omega) (by simp [tT]) ((List.range (l.length + 1)).countP (tT x) - agr (l.length + 1) g 0 (tT x)) g hg (by rw [hct, hdg]) (fun a b ha hb ta tb hb0 => by
      have e1 : deg (l.length + 1) g a = (x :: l)[a]'(by rw [hlen]; exact ha) := hd a (by rw [hlen]; exact ha)
      have e2 : deg (l.length + 1) g b = (x :: l)[b]'(by rw [hlen]; exact hb) := hd b (by rw [hlen]; exact hb)
      rw [e1, e2]
      unfold tT at ta tb
      simp only [Bool.and_eq_true, decide_eq_true_eq, Bool.and_eq_false_iff, decide_eq_false_iff_not] at ta tb
      obtain ⟨a', rfl⟩ : ∃ a', a = a' + 1 := ⟨a - 1, by omega⟩
      obtain ⟨b', rfl⟩ : ∃ b', b = b' + 1 := ⟨b - 1, by omega⟩
      simp only [List.getElem_cons_succ]
      exact (List.pairwise_iff_getElem.1 hs) a' b' (by omega) (by omega) (by omega)) (by have := agr_le (n := l.length + 1) (g := g) (s := 0) (T := tT x); omega)
    have hd' : ∀ v (h : v < (x :: l).length), deg (x :: l).length g' v = (x :: l)[v] := fun v h => by
      rw [← hd v h]; exact h2 v
    obtain ⟨k1, k2, k3⟩ := real_tail h1 hd'
    have k4 := take1_left (l := l) (x := x) (T := g' 0) h3
    rw [k4] at k1
    refine ⟨hle, fun i hi hix => k3 i hi ?_, k1⟩
    rw [h3 (i + 1) (by omega)]
    simp [tT]; omega
  · rintro ⟨h1, h2, h3⟩
    refine real_cons (tT x) (by simp [tT]) (cnt_tT x _ h1) (fun i hi ht => h2 i hi ?_) ?_
    · simp [tT] at ht; omega
    · rw [take1_left fun _ _ => rfl]; exact h3
/-- Whether there is a plan, by their way. -/
def hhB : Nat → List Nat → Bool
  | 0, _ => true
  | _ + 1, [] => true
  | k + 1, x :: l => Nat.ble x l.length && (l.take x).all (fun y => Nat.blt 0 y) && hhB k (srtD (left x l))
theorem real_nil : real [] := ⟨fun _ _ => false, ⟨fun _ _ => rfl, fun _ => rfl⟩, fun v h => by simp at h⟩
theorem left_len {x : Nat} {l : List Nat} : (left x l).length = l.length := by simp [left]; omega
theorem hh_real : ∀ (k : Nat) (l : List Nat), l.length = k → Dsc l → (hhB k l = true ↔ real l)
  | 0, l, hl, _ => by
    obtain rfl : l = [] := List.length_eq_zero_iff.1 hl
    simp [hhB, real_nil]
  | k + 1, [], hl, _ => by simp at hl
  | k + 1, x :: l, hl, hs => by
    have ih := hh_real k (srtD (left x l)) (by rw [(srtD_perm _).length_eq, left_len]; simpa using hl) (srtD_dsc _)
    rw [hak (List.pairwise_cons.1 hs).2, hhB, Bool.and_eq_true, Bool.and_eq_true, ih, real_perm (srtD_perm _), Nat.ble_eq, List.all_eq_true, and_assoc]
    refine and_congr_right fun h1 => and_congr_left fun _ => ?_
    constructor
    · intro h i hi hx
      have := h l[i] (List.mem_take_iff_getElem.2 ⟨i, by omega, rfl⟩)
      exact Nat.le_of_ble_eq_true this
    · intro h y hy
      obtain ⟨i, hi, rfl⟩ := List.mem_take_iff_getElem.1 hy
      exact Nat.ble_eq_true_of_le (h i (by omega) (by omega))
/-- The same with the others in any order. -/
theorem havel (x : Nat) (l : List Nat) : real (x :: l) ↔ x ≤ l.length ∧ (∀ i (hi : i < (srtD l).length), i < x → 0 < (srtD l)[i]) ∧ real (left x (srtD l)) := by
  have hl := (srtD_perm l).length_eq
  rw [← real_perm ((srtD_perm l).cons x), hak (srtD_dsc l)]
  constructor <;> (rintro ⟨h1, h2, h3⟩; exact ⟨by omega, h2, h3⟩)
end Go.Proofs.Ytbimapbcpmeooaa.Cl
