/- Lists that are mixed between two places. -/
import Derived.Test.YtjfmiohgkcjdnaaCa
namespace Go.Proofs.Ytjfmiohgkcjdnaa
open Go Go.Proofs.Ytjfmiohgkcjdnaa.AX

/-- What a temporary that is called calls. -/
def callW (P : Program) (v : AV) (xs : List AV) : Option (FuncId × List AV) := match v with
  | .func (.func f) first cap => if okFn P f then some (f, first ++ xs ++ cap) else none
  | _ => none
@[simp] theorem callW_f {P : Program} {f : FuncId} {first cap xs : List AV} : callW P (.func (.func f) first cap) xs = if okFn P f then some (f, first ++ xs ++ cap) else none := rfl
@[simp] theorem opcall_tmp {P : Program} {e : Env} {t : Tmp} {xs : Array Operand} {ts : Array TypeId} : opCall P (oval e) (.call ⟨.value (.tmp t), xs, ts⟩) = callW P (eget e t) (xs.toList.map (oval e)) := by
  simp only [opCall, oval, callW]
  cases eget e t <;> rfl

/-- All rows but one are as they were. -/
def KeepX (r : Nat) (H H' : AH) : Prop := H.length ≤ H'.length ∧ ∀ j : Nat, j ≠ r → j < H.length → H'[j]? = H[j]?
theorem KeepX.refl (r : Nat) (H : AH) : KeepX r H H := ⟨Nat.le_refl _, fun _ _ _ => rfl⟩
theorem KeepX.ext {r : Nat} {A B C : AH} (h : KeepX r A B) (k : Ext B C) : KeepX r A C := ⟨Nat.le_trans h.1 k.1, fun j h1 h2 => by rw [k.2 j (by have := h.1; omega), h.2 j h1 h2]⟩
theorem KeepX.set {r : Nat} {A B : AH} (h : KeepX r A B) (o : AObj) : KeepX r A (B.set r o) := ⟨by simpa using h.1, fun j h1 h2 => by rw [List.getElem?_set_ne (Ne.symm h1), h.2 j h1 h2]⟩
theorem KeepX.row {r : Nat} {H H' : AH} (h : KeepX r H H') {j : Nat} {o : AObj} (hj : j ≠ r) (ho : H[j]? = some o) : H'[j]? = some o := by
  rw [h.2 j hj (List.getElem?_eq_some_iff.1 ho).1]; exact ho
theorem KeepX.trans {r : Nat} {A B C : AH} (h : KeepX r A B) (k : KeepX r B C) : KeepX r A C := ⟨Nat.le_trans h.1 k.1, fun j h1 h2 => by rw [k.2 j h1 (by have := h.1; omega), h.2 j h1 h2]⟩

/-! ### Lists -/
def g (c : List Int) (i : Nat) : Int := c.getD i 0
theorem g_lt {c : List Int} {i : Nat} (h : i < c.length) : g c i = c[i] := by simp [g, List.getD_eq_getElem?_getD, h]
def sw (c : List Int) (i j : Nat) : List Int := (c.set i (g c j)).set j (g c i)
theorem sw_len (c : List Int) (i j : Nat) : (sw c i j).length = c.length := by simp [sw]
theorem g_sw {c : List Int} {i j : Nat} (hi : i < c.length) (hj : j < c.length) (k : Nat) : g (sw c i j) k = if k = j then g c i else if k = i then g c j else g c k := by
  unfold sw
  unfold g
  simp only [List.getD_eq_getElem?_getD, List.getElem?_set, List.length_set]
  by_cases h1 : k = j
  · subst h1; simp [hj]
  · by_cases h2 : k = i
    · subst h2; simp [h1, hi, Ne.symm h1]
    · simp [Ne.symm h1, Ne.symm h2, h1, h2]
theorem sw_j {c : List Int} {i j : Nat} (hi : i < c.length) (hj : j < c.length) : g (sw c i j) j = g c i := by rw [g_sw hi hj, if_pos rfl]
theorem sw_i {c : List Int} {i j : Nat} (hi : i < c.length) (hj : j < c.length) : g (sw c i j) i = g c j := by
  rw [g_sw hi hj]
  by_cases h : i = j
  · rw [if_pos h, h]
  · rw [if_neg h, if_pos rfl]
theorem sw_o {c : List Int} {i j k : Nat} (hi : i < c.length) (hj : j < c.length) (h1 : k ≠ i) (h2 : k ≠ j) : g (sw c i j) k = g c k := by rw [g_sw hi hj, if_neg h2, if_neg h1]
theorem sw_perm {c : List Int} {i j : Nat} (hi : i < c.length) (hj : j < c.length) : (sw c i j).Perm c := by
  have h := Array.swap_perm (xs := c.toArray) (i := i) (j := j) (by simpa using hi) (by simpa using hj)
  have h2 := h.toList
  simp only [Array.swap, Array.toList_set] at h2
  have e1 : g c j = c[j] := g_lt hj
  have e2 : g c i = c[i] := g_lt hi
  simpa [sw, e1, e2] using h2
/-- Mixed between a and b. -/
def Shuf (a b : Nat) (c m : List Int) : Prop := m.Perm c ∧ ∀ k, k < a ∨ b ≤ k → g m k = g c k
theorem Shuf.refl (a b : Nat) (c : List Int) : Shuf a b c c := ⟨.refl _, fun _ _ => rfl⟩
theorem Shuf.len {a b : Nat} {c m : List Int} (h : Shuf a b c m) : m.length = c.length := h.1.length_eq
theorem Shuf.trans {a b : Nat} {c d m : List Int} (h : Shuf a b c d) (k : Shuf a b d m) : Shuf a b c m := ⟨k.1.trans h.1, fun i hi => by rw [k.2 i hi, h.2 i hi]⟩
theorem Shuf.wide {a b a' b' : Nat} {c m : List Int} (h : Shuf a b c m) (h1 : a' ≤ a) (h2 : b ≤ b') : Shuf a' b' c m := ⟨h.1, fun i hi => h.2 i (by omega)⟩
theorem Shuf.swap {a b i j : Nat} {c : List Int} (hb : b ≤ c.length) (hi : a ≤ i ∧ i < b) (hj : a ≤ j ∧ j < b) : Shuf a b c (sw c i j) :=
  ⟨sw_perm (by omega) (by omega), fun k hk => by rw [g_sw (by omega) (by omega), if_neg (by omega), if_neg (by omega)]⟩
def mid (a b : Nat) (c : List Int) : List Int := (c.drop a).take (b - a)
theorem mid_mem {a b : Nat} {c : List Int} (hb : b ≤ c.length) {x : Int} : x ∈ mid a b c ↔ ∃ k, a ≤ k ∧ k < b ∧ g c k = x := by
  unfold mid
  constructor
  · intro h
    obtain ⟨i, hi, rfl⟩ := List.mem_iff_getElem.1 h
    simp at hi
    exact ⟨a + i, by omega, by omega, by rw [g_lt (by omega)]; simp⟩
  · rintro ⟨k, h1, h2, rfl⟩
    rw [g_lt (by omega)]
    exact List.mem_iff_getElem.2 ⟨k - a, by simp; omega, by simp; congr 1; omega⟩
theorem Shuf.mid {a b : Nat} {c m : List Int} (h : Shuf a b c m) (hab : a ≤ b) (hb : b ≤ c.length) : (mid a b m).Perm (mid a b c) := by
  have hl := h.len
  have split : ∀ l : List Int, l = l.take a ++ (Go.Proofs.Ytjfmiohgkcjdnaa.mid a b l ++ l.drop b) := by
    intro l
    unfold Go.Proofs.Ytjfmiohgkcjdnaa.mid
    have : l.drop b = (l.drop a).drop (b - a) := by rw [List.drop_drop]; congr 1; omega
    rw [this, List.take_append_drop, List.take_append_drop]
  have e1 : m.take a = c.take a := by
    apply List.ext_getElem (by simp [hl])
    intro i h1 h2
    simp at h1 h2
    have := h.2 i (by omega)
    rw [g_lt (by omega), g_lt (by omega)] at this
    simpa using this
  have e2 : m.drop b = c.drop b := by
    apply List.ext_getElem (by simp [hl])
    intro i h1 h2
    simp at h1 h2
    have := h.2 (b + i) (by omega)
    rw [g_lt (by omega), g_lt (by omega)] at this
    simpa using this
  have hp := h.1
  rw [split m, split c, e1, e2] at hp
  exact (List.perm_append_right_iff _).1 ((List.perm_append_left_iff _).1 hp)
/-- What holds of all between, holds of all when they are mixed. -/
theorem Shuf.all {a b : Nat} {c m : List Int} (h : Shuf a b c m) (hb : b ≤ c.length) {p : Int → Prop} (hp : ∀ k, a ≤ k → k < b → p (g c k)) : ∀ k, a ≤ k → k < b → p (g m k) := by
  intro k h1 h2
  have hm : g m k ∈ Go.Proofs.Ytjfmiohgkcjdnaa.mid a b m := (mid_mem (by have := h.len; omega)).2 ⟨k, h1, h2, rfl⟩
  obtain ⟨k', h3, h4, h5⟩ := (mid_mem hb).1 ((h.mid (by omega) hb).mem_iff.1 hm)
  rw [← h5]; exact hp k' h3 h4

/-! ### Rows of integers -/
def Rw (r ver : Nat) (H : AH) (c : List Int) : Prop := ∃ s, H[r]? = some (.row (c.map (.int .i64)) ver s false)
theorem Rw.ld {r ver i : Nat} {H : AH} {c : List Int} (h : Rw r ver H c) (hi : i < c.length) : AX.ld H r i ver = some (.int .i64 (g c i)) := by
  obtain ⟨s, h⟩ := h
  rw [ld_row h, g_lt hi]; simp [hi]
theorem Rw.ext {r ver : Nat} {H H' : AH} {c : List Int} (h : Rw r ver H c) (hE : Ext H H') : Rw r ver H' c := by
  obtain ⟨s, h⟩ := h
  exact ⟨s, hE.row h⟩
theorem Rw.swap {r ver i j : Nat} {H : AH} {c : List Int} (h : Rw r ver H c) (hi : i < c.length) (hj : j < c.length) :
    ∃ H1 H2, storeV Try.prog 3 H (.ptr r i ver) (.int .i64 (g c j)) = some (none, H1) ∧ storeV Try.prog 3 H1 (.ptr r j ver) (.int .i64 (g c i)) = some (none, H2) ∧ Rw r ver H2 (sw c i j) ∧ KeepX r H H2 := by
  obtain ⟨s, h⟩ := h
  have h1 := store_row (P := Try.prog) (u := 3) (p := i) sc3 (x := .int .i64 (g c j)) (y := .int .i64 c[i]) rfl h (by simp [hi])
  have e1 : (c.map (AV.int .i64)).set i (.int .i64 (g c j)) = (c.set i (g c j)).map (.int .i64) := by rw [List.map_set]
  rw [e1] at h1
  have hr1 := get_set (o' := .row ((c.set i (g c j)).map (.int .i64)) ver (min s i) false) h
  have h2 := store_row (P := Try.prog) (u := 3) (p := j) sc3 (x := .int .i64 (g c i)) (y := .int .i64 ((c.set i (g c j))[j]'(by simpa using hj))) rfl hr1 (by rw [List.getElem?_map, List.getElem?_eq_getElem (by simpa using hj)]; rfl)
  have e2 : ((c.set i (g c j)).map (AV.int .i64)).set j (.int .i64 (g c i)) = (sw c i j).map (.int .i64) := by rw [← List.map_set]; rfl
  rw [e2] at h2
  exact ⟨_, _, h1, h2, ⟨_, get_set hr1⟩, ((KeepX.refl r H).set _).set _⟩
end Go.Proofs.Ytjfmiohgkcjdnaa

/- Sorting by a comparison: a short part is sorted in its row. -/
namespace Go.Proofs.Ytjfmiohgkcjdnaa
open Go Go.Proofs.Ytjfmiohgkcjdnaa.AX

/-- What a comparison says. -/
def cmpS (a b : Int) : Int := if a < b then -1 else if b < a then 1 else 0
theorem cmpS_neg {a b : Int} : cmpS a b < 0 ↔ a < b := by unfold cmpS; split <;> (try split) <;> omega
/-- A function that compares by κ what is in D, as long as rows other than r stay. -/
def Cmp (f : FuncId) (caps : List AV) (D : Int → Prop) (κ : Int → Int) (r : Nat) (H : AH) : Prop :=
  okFn Try.prog f = true ∧ ∀ H', KeepX r H H' → ∀ x y, D x → D y → ∀ Q : AV → AH → Prop, Q (.int .i64 (cmpS (κ x) (κ y))) H' → AC Try.prog f ([] ++ [.int .i64 x, .int .i64 y] ++ caps) H' Q
theorem Cmp.keep {f : FuncId} {caps : List AV} {D : Int → Prop} {κ : Int → Int} {r : Nat} {H H1 : AH} (h : Cmp f caps D κ r H) (hK : KeepX r H H1) : Cmp f caps D κ r H1 := ⟨h.1, fun H' h1 => h.2 H' (hK.trans h1)⟩
/-- Sorted between a and b. -/
def Srt (κ : Int → Int) (a b : Nat) (c : List Int) : Prop := ∀ p q, a ≤ p → p < q → q < b → κ (g c p) ≤ κ (g c q)
def All (D : Int → Prop) (c : List Int) : Prop := ∀ i, i < c.length → D (g c i)
theorem All.perm {D : Int → Prop} {c m : List Int} (h : All D c) (hp : m.Perm c) : All D m := by
  intro i hi
  have : m[i] ∈ c := hp.mem_iff.1 (by simp)
  obtain ⟨j, hj, e⟩ := List.mem_iff_getElem.1 this
  rw [g_lt hi, ← e, ← g_lt hj]; exact h j hj
set_option maxRecDepth 100000 in
theorem insertion_ac (f : FuncId) (caps : List AV) (D : Int → Prop) (κ : Int → Int) (r ver a b : Nat) (c : List Int) (H : AH) (Q : AV → AH → Prop) (hC : Cmp f caps D κ r H) (hr : Rw r ver H c) (hD : All D c) (hl : c.length ≤ 1000000) (hab : a ≤ b) (hb : b ≤ c.length)
    (h : ∀ (H' : AH) (m : List Int), Shuf a b c m → Srt κ a b m → Rw r ver H' m → KeepX r H H' → Q (.tuple []) H') : AC Try.prog 99 [.slice (some r) 0 c.length ver 1 false, .int .i64 a, .int .i64 b, .func (.func f) [] caps] H Q := by
  refine L_body 53 Try.func99 rfl rfl ?_
  generalize hn : c.length = n at *
  refine L_reg [0, 1, 2, 3, 8] (fun K hK => ?_)
  simp [wrap_i64 (a := (a : Int) + 1) (by omega)]
  apply hK; clear hK K
  refine L_block (L_loopV [8] (fun k vs H' => ∃ (i : Nat) (d : List Int), k = n - i ∧ a + 1 ≤ i ∧ i ≤ max (a + 1) b ∧ Shuf a b c d ∧ Srt κ a i d ∧ vs = [.int .i64 i] ∧ Rw r ver H' d ∧ KeepX r H H') _ [.int .i64 (a + 1 : Nat)] rfl ⟨a + 1, c, rfl, by omega, by omega, .refl _ _ _, fun p q h1 h2 h3 => by omega, rfl, hr, .refl r H⟩ ?_)
  rintro k _ H1 ⟨i, d, rfl, hi1, hi2, hS, ho, rfl, hrow, hK⟩
  refine L_reg [0, 1, 2, 3, 8, 14] (fun K hK => ?_)
  simp
  apply hK; clear hK K
  refine L_dec (i < b) (by simp) (fun hlt => ?_) (fun hge => L_exit ?_)
  · refine L_block ?_
    refine L_reg [0, 1, 2, 3, 8, 9] (fun K hK => ?_)
    simp
    apply hK; clear hK K
    refine L_block (L_loopV [9] (fun k vs H' => ∃ (j : Nat) (d : List Int), k = j ∧ a ≤ j ∧ j ≤ i ∧ Shuf a b c d ∧ (∀ p q, a ≤ p → p < q → q ≤ i → q ≠ j → κ (g d p) ≤ κ (g d q)) ∧ vs = [.int .i64 j] ∧ Rw r ver H' d ∧ KeepX r H H') _ [.int .i64 i] rfl ⟨i, d, rfl, by omega, by omega, hS, fun p q h1 h2 h3 h4 => ho p q h1 h2 (by omega), rfl, hrow, hK⟩ ?_)
    clear hS ho hrow hK d H1
    rintro k _ H1 ⟨j, d, rfl, haj, hj, hS, ho, rfl, hrow, hK⟩
    have hdl : d.length = n := by rw [hS.len]; exact hn
    have hdD := hD.perm hS.1
    by_cases hk : a < k
    · obtain ⟨j, rfl⟩ : ∃ j, k = j + 1 := ⟨k - 1, by omega⟩
      have hx := hrow.ld (i := j + 1) (by omega)
      have hy := hrow.ld (i := j) (by omega)
      have hw : IntKind.i64.wrap (j : Int) = (j : Int) := wrap_i64 (by omega)
      have hi1' : ((j : Int) + 1).toNat = j + 1 := by omega
      have g1 : (0 : Int) ≤ (j : Int) + 1 := by omega
      have g2 : (j : Int) + 1 < (n : Int) := by omega
      have g3 : j < n := by omega
      have g4 : (a : Int) < (j : Int) + 1 := by omega
      have hx0 := hdD (j + 1) (by omega)
      have hy0 := hdD j (by omega)
      have hCk := hC.keep hK
      refine L_regT mixed [0, 1, 2, 3, 8, 9, 34] (by kernel_rfl) (fun K hK => ?_)
      simp [hw, hi1', g1, g2, g3, g4, hx, hy, hCk.1]
      refine exC_mk (fun Q hQ => hCk.2 H1 (.refl _ _) _ _ hx0 hy0 Q hQ) ?_
      simp [pickV]
      apply hK; clear hK K
      by_cases hyx : κ (g d (j + 1)) < κ (g d j)
      · have hneg := cmpS_neg.2 hyx
        refine L_true (by simp [hneg]) ?_
        obtain ⟨H2, H3, e1, e2, e3, e4⟩ := hrow.swap (i := j + 1) (j := j) (by omega) (by omega)
        refine L_block ?_
        refine L_regT mixed [0, 1, 2, 3, 8, 9] (by kernel_rfl) (fun K hK => ?_)
        simp [hw, hi1', g1, g2, g3, hx, hy, e1, e2]
        apply hK; clear hK K
        refine L_reg [0, 1, 2, 3, 8, 9] (fun K hK => ?_)
        simp [hw]
        apply hK; clear hK K
        refine ⟨j, [.int .i64 (j : Nat)], by omega, by simp, j, _, rfl, by omega, by omega, hS.trans (.swap (by omega) (by omega) (by omega)), fun p q h1 h2 h3 h4 => ?_, rfl, e3, hK.trans e4⟩
        have w0 := sw_i (c := d) (i := j + 1) (j := j) (by omega) (by omega)
        have w1 := sw_j (c := d) (i := j + 1) (j := j) (by omega) (by omega)
        have w2 := fun (k : Nat) (k1 : k ≠ j + 1) (k2 : k ≠ j) => sw_o (c := d) (i := j + 1) (j := j) (by omega) (by omega) k1 k2
        by_cases q1 : q = j + 1
        · subst q1
          by_cases p1 : p = j
          · subst p1; rw [w0, w1]; omega
          · rw [w0, w2 p (by omega) p1]
            exact ho p j h1 (by omega) (by omega) (by omega)
        · rw [w2 q q1 h4]
          by_cases p1 : p = j
          · subst p1; rw [w1]
            exact ho (p + 1) q (by omega) (by omega) h3 (by omega)
          · by_cases p2 : p = j + 1
            · subst p2; rw [w0]
              exact ho j q (by omega) (by omega) h3 (by omega)
            · rw [w2 p p2 p1]
              exact ho p q h1 h2 h3 (by omega)
      · have hneg : ¬ cmpS (κ (g d (j + 1))) (κ (g d j)) < 0 := fun h => hyx (cmpS_neg.1 h)
        refine L_false (by simp; omega) (L_exit ?_)
        refine L_reg [0, 1, 2, 3, 8] (fun K hK => ?_)
        simp [wrap_i64 (a := (i : Int) + 1) (by omega)]
        apply hK; clear hK K
        refine ⟨n - (i + 1), [.int .i64 (i + 1 : Nat)], by omega, by simp, i + 1, _, rfl, by omega, by omega, hS, fun p q h1 h2 h3 => ?_, rfl, hrow, hK⟩
        by_cases q1 : q = j + 1
        · subst q1
          by_cases p1 : p = j
          · subst p1; omega
          · have := ho p j h1 (by omega) (by omega) (by omega)
            omega
        · exact ho p q h1 h2 (by omega) q1
    · have hka : k = a := by omega
      subst hka
      refine L_regT mixed [0, 1, 2, 3, 8, 9, 34] (by kernel_rfl) (fun K hK => ?_)
      simp [pickV]
      apply hK; clear hK K
      refine L_false (by simp) (L_exit ?_)
      refine L_reg [0, 1, 2, 3, 8] (fun K hK => ?_)
      simp [wrap_i64 (a := (i : Int) + 1) (by omega)]
      apply hK; clear hK K
      exact ⟨n - (i + 1), [.int .i64 (i + 1 : Nat)], by omega, by simp, i + 1, _, rfl, by omega, by omega, hS, fun p q h1 h2 h3 => ho p q h1 h2 (by omega) (by omega), rfl, hrow, hK⟩
  · have hbi : b ≤ i := by omega
    refine ⟨.inl rfl, _, rfl, h H1 d hS (fun p q h1 h2 h3 => ho p q h1 h2 (by omega)) hrow hK⟩
end Go.Proofs.Ytjfmiohgkcjdnaa

/- Sorting by a comparison: a part is turned round; a pivot is chosen. -/
namespace Go.Proofs.Ytjfmiohgkcjdnaa
open Go Go.Proofs.Ytjfmiohgkcjdnaa.AX

set_option maxRecDepth 100000 in
theorem reverse_ac (cv : AV) (r ver a b : Nat) (c : List Int) (H : AH) (Q : AV → AH → Prop) (hr : Rw r ver H c) (hl : c.length ≤ 1000000) (hab : a < b) (hb : b ≤ c.length)
    (h : ∀ (H' : AH) (m : List Int), Shuf a b c m → Rw r ver H' m → KeepX r H H' → Q (.tuple []) H') : AC Try.prog 103 [.slice (some r) 0 c.length ver 1 false, .int .i64 a, .int .i64 b, cv] H Q := by
  obtain ⟨b, rfl⟩ : ∃ b', b = b' + 1 := ⟨b - 1, by omega⟩
  refine L_body 34 Try.func103 rfl rfl ?_
  refine L_reg [0, 2, 8] (fun K hK => ?_)
  simp
  apply hK; clear hK K
  have hw : IntKind.i64.wrap (b : Int) = (b : Int) := wrap_i64 (by omega)
  refine L_reg [0, 8, 9] (fun K hK => ?_)
  simp [hw]
  apply hK; clear hK K
  generalize hn : c.length = n at *
  refine L_block (L_loopV [8, 9] (fun k vs H' => ∃ (i j : Nat) (d : List Int), k = j + 1 - i ∧ a ≤ i ∧ j ≤ b ∧ Shuf a (b + 1) c d ∧ vs = [.int .i64 i, .int .i64 j] ∧ Rw r ver H' d ∧ KeepX r H H') _ [.int .i64 a, .int .i64 b] rfl ⟨a, b, c, rfl, by omega, by omega, .refl _ _ _, rfl, hr, .refl r H⟩ ?_)
  rintro k _ H1 ⟨i, j, d, rfl, hi, hj, hS, rfl, hrow, hK⟩
  refine L_reg [0, 8, 9, 15] (fun K hK => ?_)
  simp
  apply hK; clear hK K
  have hdl : d.length = n := by rw [hS.len]; exact hn
  refine L_dec (i < j) (by simp) (fun hlt => ?_) (fun hge => L_exit ?_)
  · obtain ⟨j, rfl⟩ : ∃ j', j = j' + 1 := ⟨j - 1, by omega⟩
    have hx := hrow.ld (i := i) (by omega)
    have hy := hrow.ld (i := j + 1) (by omega)
    obtain ⟨H2, H3, e1, e2, e3, e4⟩ := hrow.swap (i := i) (j := j + 1) (by omega) (by omega)
    have g1 : i < n := by omega
    have g2 : (j : Int) + 1 < n := by omega
    have g3 : (0 : Int) ≤ (j : Int) + 1 := by omega
    have g4 : ((j : Int) + 1).toNat = j + 1 := by omega
    refine L_block ?_
    refine L_regT mixed [0, 8, 9] (by kernel_rfl) (fun K hK => ?_)
    simp [g1, g2, g3, g4, hx, hy, e1, e2]
    apply hK; clear hK K
    refine L_reg [0, 8, 9] (fun K hK => ?_)
    simp [wrap_i64 (a := (i : Int) + 1) (by omega)]
    apply hK; clear hK K
    refine L_reg [0, 8, 9] (fun K hK => ?_)
    simp [wrap_i64 (a := (j : Int)) (by omega)]
    apply hK; clear hK K
    exact ⟨j + 1 - (i + 1), [.int .i64 (i + 1 : Nat), .int .i64 j], by omega, by simp, i + 1, j, _, rfl, by omega, by omega, hS.trans (.swap (by omega) (by omega) (by omega)), rfl, e3, hK.trans e4⟩
  · exact ⟨.inl rfl, _, rfl, h H1 d hS hrow hK⟩

/-- What stands while a pivot is chosen: the row, and how often two were out of order. -/
structure Piv (r ver sp : Nat) (B : AH) (c : List Int) (k : Nat) (H : AH) : Prop where
  keep : KeepX r B H
  row : Rw r ver H c
  lt : B.length ≤ sp
  ne : r ≠ sp
  cnt : ∃ s st : Nat, s ≤ k ∧ H[sp]? = some (.row [.int .i64 s] 0 st false)
theorem Piv.mono {r ver sp k k' : Nat} {B H : AH} {c : List Int} (h : Piv r ver sp B c k H) (hk : k ≤ k') : Piv r ver sp B c k' H :=
  ⟨h.keep, h.row, h.lt, h.ne, let ⟨s, st, h1, h2⟩ := h.cnt; ⟨s, st, by omega, h2⟩⟩
set_option maxRecDepth 100000 in
theorem order2_ac (f : FuncId) (caps : List AV) (D : Int → Prop) (κ : Int → Int) (r ver sp a b k : Nat) (c : List Int) (B H : AH) (Q : AV → AH → Prop) (hC : Cmp f caps D κ r B) (hP : Piv r ver sp B c k H) (hk : k ≤ 1000) (hD : All D c) (_hl : c.length ≤ 1000000) (ha : a < c.length) (hb : b < c.length)
    (h : ∀ (H' : AH) (x y : Nat), (x = a ∧ y = b) ∨ (x = b ∧ y = a) → Piv r ver sp B c (k + 1) H' → Q (.tuple [.int .i64 x, .int .i64 y]) H') : AC Try.prog 126 [.slice (some r) 0 c.length ver 1 false, .int .i64 a, .int .i64 b, .ptr sp 0 0, .func (.func f) [] caps] H Q := by
  refine L_body 32 Try.func126 rfl rfl ?_
  refine L_reg [0, 1, 2, 3, 4] (fun K hK => ?_)
  simp
  apply hK; clear hK K
  have hx := hP.row.ld ha
  have hy := hP.row.ld hb
  have hCk := hC.keep hP.keep
  refine L_regT mixed [1, 2, 3, 22] (by kernel_rfl) (fun K hK => ?_)
  simp [ha, hb, hx, hy, hCk.1]
  refine exC_mk (fun Q hQ => hCk.2 H (.refl _ _) _ _ (hD b hb) (hD a ha) Q hQ) ?_
  simp
  apply hK; clear hK K
  obtain ⟨s, st, hs, hrow⟩ := hP.cnt
  refine L_dec (cmpS (κ (g c b)) (κ (g c a)) < 0) (by simp) (fun hlt => ?_) (fun hge => ?_)
  · have e1 : ld H sp 0 0 = some (.int .i64 s) := by rw [ld_row hrow]; rfl
    have e2 := store_row (P := Try.prog) (u := 3) (p := 0) sc3 (x := .int .i64 ((s : Int) + 1)) (y := .int .i64 s) rfl hrow rfl
    refine L_reg [1, 2] (fun K hK => ?_)
    simp [aNil, e1, wrap_i64 (a := (s : Int) + 1) (by omega), e2]
    apply hK; clear hK K
    refine L_reg [10, 11] (fun K hK => ?_)
    simp
    apply hK; clear hK K
    exact L_ret ⟨.inr rfl, _, rfl, h _ b a (.inr ⟨rfl, rfl⟩) ⟨⟨by simpa using hP.keep.1, fun j h1 h2 => by rw [set_ne (by have := hP.lt; omega)]; exact hP.keep.2 j h1 h2⟩, (let ⟨s', h'⟩ := hP.row; ⟨s', by rw [set_ne (Ne.symm hP.ne)]; exact h'⟩), hP.lt, hP.ne, s + 1, _, by omega, by rw [get_set hrow]; rfl⟩⟩
  · refine L_reg [10, 11] (fun K hK => ?_)
    simp
    apply hK; clear hK K
    exact L_ret ⟨.inr rfl, _, rfl, h _ a b (.inl ⟨rfl, rfl⟩) (hP.mono (by omega))⟩
theorem median_ac (f : FuncId) (caps : List AV) (D : Int → Prop) (κ : Int → Int) (r ver sp a b d k : Nat) (c : List Int) (B H : AH) (Q : AV → AH → Prop) (hC : Cmp f caps D κ r B) (hP : Piv r ver sp B c k H) (hk : k ≤ 900) (hD : All D c) (hl : c.length ≤ 1000000) (ha : a < c.length) (hb : b < c.length) (hd : d < c.length)
    (h : ∀ (H' : AH) (x : Nat), x = a ∨ x = b ∨ x = d → Piv r ver sp B c (k + 3) H' → Q (.int .i64 x) H') : AC Try.prog 122 [.slice (some r) 0 c.length ver 1 false, .int .i64 a, .int .i64 b, .int .i64 d, .ptr sp 0 0, .func (.func f) [] caps] H Q := by
  refine L_body 41 Try.func122 rfl rfl ?_
  refine L_reg [0, 1, 2, 3, 4, 5] (fun K hK => ?_)
  simp
  apply hK; clear hK K
  refine L_reg [0, 1, 2, 3, 4, 5] (fun K hK => ?_)
  simp [okFn_low]
  refine order2_ac f caps D κ r ver sp a b k c B H _ hC hP (by omega) hD hl ha hb (fun H1 x y hxy hP1 => ?_)
  simp
  apply hK; clear hK K
  refine L_reg [0, 1, 2, 4, 5] (fun K hK => ?_)
  simp [okFn_low]
  refine order2_ac f caps D κ r ver sp y d (k + 1) c B H1 _ hC hP1 (by omega) hD hl (by omega) hd (fun H2 x2 y2 hxy2 hP2 => ?_)
  simp
  apply hK; clear hK K
  refine L_reg [2] (fun K hK => ?_)
  simp [okFn_low]
  refine order2_ac f caps D κ r ver sp x x2 (k + 2) c B H2 _ hC hP2 (by omega) hD hl (by omega) (by omega) (fun H3 x3 y3 hxy3 hP3 => ?_)
  simp
  apply hK; clear hK K
  refine L_reg [12] (fun K hK => ?_)
  simp
  apply hK; clear hK K
  exact L_ret ⟨.inr rfl, _, rfl, h _ y3 (by omega) hP3⟩
theorem medianAdj_ac (f : FuncId) (caps : List AV) (D : Int → Prop) (κ : Int → Int) (r ver sp a k : Nat) (c : List Int) (B H : AH) (Q : AV → AH → Prop) (hC : Cmp f caps D κ r B) (hP : Piv r ver sp B c k H) (hk : k ≤ 900) (hD : All D c) (hl : c.length ≤ 1000000) (ha : 1 ≤ a) (hb : a + 1 < c.length)
    (h : ∀ (H' : AH) (x : Nat), a ≤ x + 1 ∧ x ≤ a + 1 → Piv r ver sp B c (k + 3) H' → Q (.int .i64 x) H') : AC Try.prog 121 [.slice (some r) 0 c.length ver 1 false, .int .i64 a, .ptr sp 0 0, .func (.func f) [] caps] H Q := by
  obtain ⟨a, rfl⟩ : ∃ b', a = b' + 1 := ⟨a - 1, by omega⟩
  refine L_body 18 Try.func121 rfl rfl ?_
  refine L_reg [0, 1, 2, 3] (fun K hK => ?_)
  simp
  apply hK; clear hK K
  refine L_reg [8] (fun K hK => ?_)
  simp [okFn_low, wrap_i64 (a := (a : Int)) (by omega), wrap_i64 (a := (a : Int) + 1 + 1) (by omega)]
  refine median_ac f caps D κ r ver sp a (a + 1) (a + 1 + 1) k c B H _ hC hP hk hD hl (by omega) (by omega) (by omega) (fun H1 x hx hP1 => ?_)
  simp
  apply hK; clear hK K
  exact L_ret ⟨.inr rfl, _, rfl, h _ x (by omega) hP1⟩
end Go.Proofs.Ytjfmiohgkcjdnaa

/- Sorting by a comparison: a pivot. -/
namespace Go.Proofs.Ytjfmiohgkcjdnaa
open Go Go.Proofs.Ytjfmiohgkcjdnaa.AX

set_option maxRecDepth 100000 in
theorem pivot_ac (f : FuncId) (caps : List AV) (D : Int → Prop) (κ : Int → Int) (r ver a l : Nat) (c : List Int) (H : AH) (Q : AV → AH → Prop) (hC : Cmp f caps D κ r H) (hr : Rw r ver H c) (hrl : r < H.length) (hD : All D c) (hlen : c.length ≤ 1000000) (hl : 12 < l) (hb : a + l ≤ c.length)
    (h : ∀ (H' : AH) (x : Nat) (hint : Int), a ≤ x ∧ x < a + l → KeepX r H H' → Rw r ver H' c → Q (.tuple [.int .i64 x, .int .i64 hint]) H') : AC Try.prog 102 [.slice (some r) 0 c.length ver 1 false, .int .i64 a, .int .i64 (a + l : Nat), .func (.func f) [] caps] H Q := by
  refine L_body 63 Try.func102 rfl rfl ?_
  refine L_reg [0, 1, 2, 3] (fun K hK => ?_)
  simp
  apply hK; clear hK K
  have hq : ((l : Int)).tdiv 4 = ((l / 4 : Nat) : Int) := by rw [Int.tdiv_eq_ediv_of_nonneg (by omega)]; rfl
  obtain ⟨q, hq0⟩ : ∃ q, q = l / 4 := ⟨_, rfl⟩
  rw [← hq0] at hq
  obtain ⟨i, hi⟩ : ∃ i : Nat, (a : Int) + q = i := ⟨a + q, by omega⟩
  obtain ⟨j, hj⟩ : ∃ i : Nat, (a : Int) + (q : Int) * 2 = i := ⟨a + q * 2, by omega⟩
  obtain ⟨k, hk⟩ : ∃ i : Nat, (a : Int) + (q : Int) * 3 = i := ⟨a + q * 3, by omega⟩
  refine L_reg [0, 1, 3, 10] (fun K hK => ?_)
  simp [wrap_i64 (a := (l : Int)) (by omega), show ((a : Int) + l - a) = l by omega]
  apply hK; clear hK K
  refine L_reg [0, 1, 3, 10, 11] (fun K hK => ?_)
  simp [alloc_z zt3]
  apply hK; clear hK K
  have hP : Piv r ver H.length H c 0 (H ++ [.row [.int .i64 0] 0 0 false]) := ⟨(KeepX.refl r H).ext (.push _ _), hr.ext (.push _ _), Nat.le_refl _, by omega, 0, 0, Nat.le_refl _, by simp⟩
  generalize H ++ [AObj.row [.int .i64 0] 0 0 false] = H0 at hP ⊢
  generalize hsp : H.length = sp at hP ⊢
  refine L_reg [0, 1, 3, 10, 11, 12] (fun K hK => ?_)
  simp [hq, wrap_i64 (a := (q : Int)) (by omega), hi, wrap_i64 (a := (i : Int)) (by omega)]
  apply hK; clear hK K
  refine L_reg [0, 1, 3, 10, 11, 12, 13] (fun K hK => ?_)
  simp [hq, wrap_i64 (a := (q : Int)) (by omega), wrap_i64 (a := (q : Int) * 2) (by omega), hj, wrap_i64 (a := (j : Int)) (by omega)]
  apply hK; clear hK K
  refine L_reg [0, 3, 10, 11, 12, 13, 14] (fun K hK => ?_)
  simp [hq, wrap_i64 (a := (q : Int)) (by omega), wrap_i64 (a := (q : Int) * 3) (by omega), hk, wrap_i64 (a := (k : Int)) (by omega)]
  apply hK; clear hK K
  refine L_reg [0, 3, 10, 11, 12, 13, 14, 34] (fun K hK => ?_)
  simp
  apply hK; clear hK K
  refine L_true (by simp; omega) ?_
  refine L_reg [0, 3, 11, 12, 13, 14, 36] (fun K hK => ?_)
  simp
  apply hK; clear hK K
  refine L_dec (50 ≤ (l : Int)) (by simp) (fun h50 => ?_) (fun h50 => ?_)
  · refine L_reg [0, 3, 11, 12, 13, 14] (fun K hK => ?_)
    simp [okFn_low]
    refine medianAdj_ac f caps D κ r ver sp i 0 c H H0 _ hC hP (by omega) hD hlen (by omega) (by omega) (fun H1 x hx hP => ?_)
    simp
    apply hK; clear hK K
    refine L_reg [0, 3, 11, 12, 13, 14] (fun K hK => ?_)
    simp [okFn_low]
    refine medianAdj_ac f caps D κ r ver sp j _ c H H1 _ hC hP (by omega) hD hlen (by omega) (by omega) (fun H2 y hy hP => ?_)
    simp
    apply hK; clear hK K
    refine L_reg [0, 3, 11, 12, 13, 14] (fun K hK => ?_)
    simp [okFn_low]
    refine medianAdj_ac f caps D κ r ver sp k _ c H H2 _ hC hP (by omega) hD hlen (by omega) (by omega) (fun H3 z hz hP => ?_)
    simp
    apply hK; clear hK K
    refine L_reg [11, 13] (fun K hK => ?_)
    simp [okFn_low]
    refine median_ac f caps D κ r ver sp x y z _ c H H3 _ hC hP (by omega) hD hlen (by omega) (by omega) (by omega) (fun H4 w hw hP => ?_)
    simp
    apply hK; clear hK K
    obtain ⟨s, st, hs, hrow⟩ := hP.cnt
    have e1 : ld H4 sp 0 0 = some (.int .i64 s) := by rw [ld_row hrow]; rfl
    refine L_reg [13, 55] (fun K hK => ?_)
    simp [e1]
    apply hK; clear hK K
    refine L_block ?_
    refine L_reg [13, 55, 57] (fun K hK => ?_)
    simp
    apply hK; clear hK K
    refine L_split rfl (fun _ => ?_) (fun _ => ?_)
    · refine L_reg [8, 9] (fun K hK => ?_)
      simp
      apply hK; clear hK K
      exact L_ret ⟨.inr rfl, _, rfl, h _ w 1 (by omega) hP.keep hP.row⟩
    · refine L_reg [13, 60] (fun K hK => ?_)
      simp
      apply hK; clear hK K
      refine L_split rfl (fun _ => ?_) (fun _ => ?_)
      · refine L_reg [8, 9] (fun K hK => ?_)
        simp
        apply hK; clear hK K
        exact L_ret ⟨.inr rfl, _, rfl, h _ w 2 (by omega) hP.keep hP.row⟩
      · refine L_reg [8, 9] (fun K hK => ?_)
        simp
        apply hK; clear hK K
        exact L_ret ⟨.inr rfl, _, rfl, h _ w 0 (by omega) hP.keep hP.row⟩
  · refine L_reg [11, 13] (fun K hK => ?_)
    simp [okFn_low]
    refine median_ac f caps D κ r ver sp i j k _ c H H0 _ hC hP (by omega) hD hlen (by omega) (by omega) (by omega) (fun H4 w hw hP => ?_)
    simp
    apply hK; clear hK K
    obtain ⟨s, st, hs, hrow⟩ := hP.cnt
    have e1 : ld H4 sp 0 0 = some (.int .i64 s) := by rw [ld_row hrow]; rfl
    refine L_reg [13, 55] (fun K hK => ?_)
    simp [e1]
    apply hK; clear hK K
    refine L_block ?_
    refine L_reg [13, 55, 57] (fun K hK => ?_)
    simp
    apply hK; clear hK K
    refine L_split rfl (fun _ => ?_) (fun _ => ?_)
    · refine L_reg [8, 9] (fun K hK => ?_)
      simp
      apply hK; clear hK K
      exact L_ret ⟨.inr rfl, _, rfl, h _ w 1 (by omega) hP.keep hP.row⟩
    · refine L_reg [13, 60] (fun K hK => ?_)
      simp
      apply hK; clear hK K
      refine L_split rfl (fun _ => ?_) (fun _ => ?_)
      · refine L_reg [8, 9] (fun K hK => ?_)
        simp
        apply hK; clear hK K
        exact L_ret ⟨.inr rfl, _, rfl, h _ w 2 (by omega) hP.keep hP.row⟩
      · refine L_reg [8, 9] (fun K hK => ?_)
        simp
        apply hK; clear hK K
        exact L_ret ⟨.inr rfl, _, rfl, h _ w 0 (by omega) hP.keep hP.row⟩
end Go.Proofs.Ytjfmiohgkcjdnaa

/- Sorting by a comparison: parts by a pivot. -/
namespace Go.Proofs.Ytjfmiohgkcjdnaa
open Go Go.Proofs.Ytjfmiohgkcjdnaa.AX

set_option maxRecDepth 100000 in
theorem partEq_ac (f : FuncId) (caps : List AV) (D : Int → Prop) (κ : Int → Int) (r ver a b pv : Nat) (c : List Int) (H : AH) (Q : AV → AH → Prop) (hC : Cmp f caps D κ r H) (hr : Rw r ver H c) (hD : All D c) (hl : c.length ≤ 1000000) (hpa : a ≤ pv) (hpb : pv < b) (hb : b ≤ c.length)
    (h : ∀ (H' : AH) (m : List Int) (p : Nat), a < p → p ≤ b → Shuf a b c m → (∀ k, a ≤ k → k < p → κ (g m k) ≤ κ (g c pv)) → (∀ k, p ≤ k → k < b → κ (g c pv) < κ (g m k)) → Rw r ver H' m → KeepX r H H' → Q (.int .i64 p) H') : AC Try.prog 105 [.slice (some r) 0 c.length ver 1 false, .int .i64 a, .int .i64 b, .int .i64 pv, .func (.func f) [] caps] H Q := by
  refine L_body 90 Try.func105 rfl rfl ?_
  refine L_reg [0, 1, 2, 3, 4] (fun K hK => ?_)
  simp
  apply hK; clear hK K
  generalize hn : c.length = n at *
  obtain ⟨b0, rfl⟩ : ∃ b', b = b' + 1 := ⟨b - 1, by omega⟩
  generalize hb0 : b0 + 1 = b at *
  have hx0 := hr.ld (i := pv) (by omega)
  have hy0 := hr.ld (i := a) (by omega)
  obtain ⟨H2, H3, e1, e2, e3, e4⟩ := hr.swap (i := a) (j := pv) (by omega) (by omega)
  have ga : a < n := by omega
  have gp : pv < n := by omega
  refine L_regT mixed [0, 1, 2, 4] (by kernel_rfl) (fun K hK => ?_)
  simp [ga, gp, hx0, hy0, e1, e2]
  apply hK; clear hK K
  have hbi : (b : Int) - 1 = b0 := by omega
  refine L_reg [0, 1, 4, 11, 12] (fun K hK => ?_)
  simp [wrap_i64 (a := (a : Int) + 1) (by omega), hbi, wrap_i64 (a := (b0 : Int)) (by omega)]
  apply hK; clear hK K
  have hS0 : Shuf a b c (sw c a pv) := .swap (by omega) (by omega) (by omega)
  have hpiv : g (sw c a pv) a = g c pv := sw_i (by omega) (by omega)
  generalize hd0 : sw c a pv = d0 at e3 hS0 hpiv
  clear e1 e2 hx0 hy0
  generalize hLOW : (fun x => ¬ κ (g c pv) < κ x) = LOW
  have hlow : ∀ x, (LOW x → ¬ cmpS (κ (g c pv)) (κ x) < 0) ∧ (¬ LOW x → cmpS (κ (g c pv)) (κ x) < 0) := by
    intro x
    rw [← hLOW]
    constructor
    · intro h1 h2; exact h1 (cmpS_neg.1 h2)
    · intro h1; exact cmpS_neg.2 (Decidable.not_not.1 h1)
  refine L_block (L_loopV [11, 12] (fun n' vs H' => ∃ (i j : Nat) (d : List Int), n' = j + 1 - i ∧ a + 1 ≤ i ∧ i ≤ j + 1 ∧ j < b ∧ Shuf a b c d ∧ g d a = g c pv ∧ (∀ k, a < k → k < i → LOW (g d k)) ∧ (∀ k, j < k → k < b → ¬ LOW (g d k)) ∧ vs = [.int .i64 i, .int .i64 j] ∧ Rw r ver H' d ∧ KeepX r H H') _ [.int .i64 (a + 1 : Nat), .int .i64 b0] rfl ⟨a + 1, b0, d0, rfl, by omega, by omega, by omega, hS0, hpiv, fun k k1 k2 => by omega, fun k k1 k2 => by omega, rfl, e3, e4⟩ ?_)
  clear e3 e4 hS0 hpiv hd0 d0 hr H2 H3
  rintro _ _ H1 ⟨i, j, d, rfl, hi, hij0, hjb, hS, hpiv, hLo, hHi, rfl, hrow, hK⟩
  have hdl : d.length = n := by rw [hS.len]; exact hn
  have hdD := hD.perm hS.1
  have hCk := hC.keep hK
  have ha0 := hrow.ld (i := a) (by omega)
  rw [hpiv] at ha0
  have hdDa : D (g c pv) := by rw [← hpiv]; exact hdD a (by omega)
  refine L_block ?_
  refine L_blockR (fun e' H' => ∃ (x2 : Nat) (v : AV), i ≤ x2 ∧ x2 ≤ j + 1 ∧ (∀ k, a < k → k < x2 → LOW (g d k)) ∧ (x2 ≤ j → ¬ LOW (g d x2)) ∧ e' = [(0, .slice (some r) 0 n ver 1 false), (1, .int .i64 a), (4, .func (.func f) [] caps), (11, .int .i64 (x2 : Nat)), (12, .int .i64 (j : Nat)), (47, v)] ∧ H1 = H') (L_loopV [11] (fun n' vs H' => ∃ x2 : Nat, n' = j + 1 - x2 ∧ i ≤ x2 ∧ x2 ≤ j + 1 ∧ (∀ k, a < k → k < x2 → LOW (g d k)) ∧ vs = [.int .i64 x2] ∧ H1 = H') _ [.int .i64 i] rfl ⟨i, rfl, by omega, by omega, hLo, rfl, rfl⟩ ?_) ?_
  · rintro n' _ _ ⟨x2, rfl, h1, h2, hR, rfl, rfl⟩
    by_cases hij : x2 ≤ j
    · have hx := hrow.ld (i := x2) (by omega)
      have g1 : x2 < n := by omega
      refine L_regT mixed [0, 1, 4, 11, 12, 47] (by kernel_rfl) (fun K hK => ?_)
      simp [hij, g1, ga, hx, ha0, hCk.1]
      refine exC_mk (fun Q hQ => hCk.2 H1 (.refl _ _) _ _ hdDa (hdD x2 (by omega)) Q hQ) ?_
      simp [pickV]
      apply hK; clear hK K
      have hc := hlow (g d x2)
      by_cases hL : LOW (g d x2)
      · refine L_true (by first | simpa using hc.1 hL | simpa using hc.2 hL) ?_
        refine L_block ?_
        refine L_reg [0, 1, 4, 11, 12] (fun K hK => ?_)
        simp [wrap_i64 (a := (x2 : Int) + 1) (by omega)]
        apply hK; clear hK K
        refine ⟨j + 1 - (x2 + 1), [.int .i64 (x2 + 1 : Nat)], by omega, by simp, x2 + 1, rfl, by omega, by omega, fun k k1 k2 => ?_, rfl, rfl⟩
        by_cases k3 : k = x2
        · rw [k3]; exact hL
        · exact hR k k1 (by omega)
      · refine L_false (by first | simpa using hc.1 hL | simpa using hc.2 hL) (L_exit ?_)
        exact ⟨x2, _, h1, h2, hR, fun _ => hL, rfl, rfl⟩
    · refine L_regT mixed [0, 1, 4, 11, 12, 47] (by kernel_rfl) (fun K hK => ?_)
      simp [pickV, hij]
      apply hK; clear hK K
      refine L_false (by simp) (L_exit ?_)
      exact ⟨x2, _, h1, h2, hR, fun h => absurd h hij, rfl, rfl⟩
  rintro _ _ ⟨i1, vu, h1u, h2u, hRu, hsu, rfl, rfl⟩
  refine L_blockR (fun e' H' => ∃ (x2 : Nat) (v : AV), x2 ≤ j ∧ i1 ≤ x2 + 1 ∧ (∀ k, x2 < k → k < b → ¬ LOW (g d k)) ∧ (i1 ≤ x2 → LOW (g d x2)) ∧ e' = [(0, .slice (some r) 0 n ver 1 false), (1, .int .i64 a), (4, .func (.func f) [] caps), (11, .int .i64 (i1 : Nat)), (12, .int .i64 (x2 : Nat)), (47, vu), (65, v)] ∧ H1 = H') (L_loopV [12] (fun n' vs H' => ∃ x2 : Nat, n' = x2 + 1 - i1 ∧ x2 ≤ j ∧ i1 ≤ x2 + 1 ∧ (∀ k, x2 < k → k < b → ¬ LOW (g d k)) ∧ vs = [.int .i64 x2] ∧ H1 = H') _ [.int .i64 j] rfl ⟨j, rfl, by omega, by omega, hHi, rfl, rfl⟩ ?_) ?_
  · rintro n' _ _ ⟨x2, rfl, h1, h2, hR, rfl, rfl⟩
    by_cases hij : i1 ≤ x2
    · have hx := hrow.ld (i := x2) (by omega)
      have g1 : x2 < n := by omega
      refine L_regT mixed [0, 1, 4, 11, 12, 47, 65] (by kernel_rfl) (fun K hK => ?_)
      simp [hij, g1, ga, hx, ha0, hCk.1]
      refine exC_mk (fun Q hQ => hCk.2 H1 (.refl _ _) _ _ hdDa (hdD x2 (by omega)) Q hQ) ?_
      simp [pickV]
      apply hK; clear hK K
      have hc := hlow (g d x2)
      by_cases hL : LOW (g d x2)
      · refine L_false (by first | simpa using hc.1 hL | simpa using hc.2 hL) (L_exit ?_)
        exact ⟨x2, _, h1, h2, hR, fun _ => hL, rfl, rfl⟩
      · refine L_true (by first | simpa using hc.1 hL | simpa using hc.2 hL) ?_
        refine L_block ?_
        obtain ⟨x3, rfl⟩ : ∃ x3, x2 = x3 + 1 := ⟨x2 - 1, by omega⟩
        refine L_reg [0, 1, 4, 11, 12, 47] (fun K hK => ?_)
        simp [wrap_i64 (a := (x3 : Int)) (by omega)]
        apply hK; clear hK K
        refine ⟨x3 + 1 - i1, [.int .i64 (x3 : Nat)], by omega, by simp, x3, rfl, by omega, by omega, fun k k1 k2 => ?_, rfl, rfl⟩
        by_cases k3 : k = x3 + 1
        · rw [k3]; exact hL
        · exact hR k (by omega) k2
    · refine L_regT mixed [0, 1, 4, 11, 12, 47, 65] (by kernel_rfl) (fun K hK => ?_)
      simp [pickV, hij]
      apply hK; clear hK K
      refine L_false (by simp) (L_exit ?_)
      exact ⟨x2, _, h1, h2, hR, fun h => absurd h hij, rfl, rfl⟩
  rintro _ _ ⟨j1, vd, h1d, h2d, hRd, hsd, rfl, rfl⟩
  refine L_reg [0, 1, 4, 11, 12, 70] (fun K hK => ?_)
  simp
  apply hK; clear hK K
  refine L_dec (j1 < i1) (by simp) (fun hlt => L_exit ?_) (fun hge => ?_)
  · refine L_reg [10] (fun K hK => ?_)
    simp
    apply hK; clear hK K
    have hLd : ∀ x, LOW x ↔ κ x ≤ κ (g c pv) := fun x => by rw [← hLOW]; exact Int.not_lt
    have e : i1 = j1 + 1 := by omega
    have q1 : ∀ k, a ≤ k → k < i1 → κ (g d k) ≤ κ (g c pv) := by
      intro k k1 k2
      by_cases k3 : k = a
      · rw [k3, hpiv]; exact Int.le_refl _
      · exact (hLd _).1 (hRu k (by omega) k2)
    have q2 : ∀ k, i1 ≤ k → k < b → κ (g c pv) < κ (g d k) := fun k k1 k2 => Int.not_le.1 fun h5 => hRd k (by omega) k2 ((hLd _).2 h5)
    exact L_ret ⟨.inr rfl, _, rfl, h H1 d i1 (by omega) (by omega) hS q1 q2 hrow hK⟩
  · have hl1 := hsu (by omega)
    have hl2 := hsd (by omega)
    have hne : i1 ≠ j1 := by rintro rfl; exact hl1 hl2
    obtain ⟨j2, rfl⟩ : ∃ j2, j1 = j2 + 1 := ⟨j1 - 1, by omega⟩
    have hx := hrow.ld (i := i1) (by omega)
    have hy := hrow.ld (i := j2 + 1) (by omega)
    obtain ⟨H2, H3, e1, e2, e3, e4⟩ := hrow.swap (i := i1) (j := j2 + 1) (by omega) (by omega)
    have g1 : i1 < n := by omega
    have g2 : (j2 : Int) + 1 < n := by omega
    have g3 : (0 : Int) ≤ (j2 : Int) + 1 := by omega
    have g4 : ((j2 : Int) + 1).toNat = j2 + 1 := by omega
    refine L_regT mixed [0, 1, 4, 11, 12] (by kernel_rfl) (fun K hK => ?_)
    simp [g1, g2, g3, g4, hx, hy, e1, e2]
    apply hK; clear hK K
    refine L_reg [0, 1, 4, 11, 12] (fun K hK => ?_)
    simp [wrap_i64 (a := (i1 : Int) + 1) (by omega)]
    apply hK; clear hK K
    refine L_reg [0, 1, 4, 11, 12] (fun K hK => ?_)
    simp [wrap_i64 (a := (j2 : Int)) (by omega)]
    apply hK; clear hK K
    have w0 := sw_i (c := d) (i := i1) (j := j2 + 1) (by omega) (by omega)
    have w1 := sw_j (c := d) (i := i1) (j := j2 + 1) (by omega) (by omega)
    have w2 := fun (k : Nat) (k1 : k ≠ i1) (k2 : k ≠ j2 + 1) => sw_o (c := d) (i := i1) (j := j2 + 1) (by omega) (by omega) k1 k2
    refine ⟨j2 + 1 - (i1 + 1), [.int .i64 (i1 + 1 : Nat), .int .i64 j2], by omega, by simp, i1 + 1, j2, _, rfl, by omega, by omega, by omega, hS.trans (.swap (by omega) (by omega) (by omega)), by rw [w2 a (by omega) (by omega)]; exact hpiv, fun k k1 k2 => ?_, fun k k1 k2 => ?_, rfl, e3, hK.trans e4⟩
    · by_cases k3 : k = i1
      · rw [k3, w0]; exact hl2
      · rw [w2 k k3 (by omega)]; exact hRu k k1 (by omega)
    · by_cases k3 : k = j2 + 1
      · rw [k3, w1]; exact hl1
      · rw [w2 k (by omega) k3]; exact hRd k (by omega) k2
end Go.Proofs.Ytjfmiohgkcjdnaa
