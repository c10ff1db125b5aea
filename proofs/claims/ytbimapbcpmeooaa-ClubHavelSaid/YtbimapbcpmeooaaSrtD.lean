/- Sorting by a comparison's sign. -/
import Derived.Test.YtbimapbcpmeooaaSrt2
namespace Go.Proofs.Ytbimapbcpmeooaa
open Go Go.Proofs.Ytbimapbcpmeooaa.AX

section
variable {tl : List AV}
def RwT (tl : List AV) (r ver : Nat) (H : AH) (c : List Int) : Prop := ∃ s, H[r]? = some (.row (c.map (.int .i64) ++ tl) ver s false)
theorem RwT.ld {r ver i : Nat} {H : AH} {c : List Int} (h : RwT tl r ver H c) (hi : i < c.length) : AX.ld H r i ver = some (.int .i64 (g c i)) := by
  obtain ⟨s, h⟩ := h
  rw [ld_row h, g_lt hi, List.getElem?_append_left (by simpa using hi)]; simp [hi]
theorem RwT.ext {r ver : Nat} {H H' : AH} {c : List Int} (h : RwT tl r ver H c) (hE : Ext H H') : RwT tl r ver H' c := by
  obtain ⟨s, h⟩ := h
  exact ⟨s, hE.row h⟩
theorem RwT.swap {r ver i j : Nat} {H : AH} {c : List Int} (h : RwT tl r ver H c) (hi : i < c.length) (hj : j < c.length) :
    ∃ H1 H2, storeV Try.prog 3 H (.ptr r i ver) (.int .i64 (g c j)) = some (none, H1) ∧ storeV Try.prog 3 H1 (.ptr r j ver) (.int .i64 (g c i)) = some (none, H2) ∧ RwT tl r ver H2 (sw c i j) ∧ KeepX r H H2 := by
  obtain ⟨s, h⟩ := h
  have h1 := store_row (P := Try.prog) (u := 3) (p := i) sc3 (x := .int .i64 (g c j)) (y := .int .i64 c[i]) rfl h (by rw [List.getElem?_append_left (by simpa using hi)]; simp [hi])
  have e1 : (c.map (AV.int .i64) ++ tl).set i (.int .i64 (g c j)) = (c.set i (g c j)).map (.int .i64) ++ tl := by rw [List.set_append_left _ _ (by simpa using hi), List.map_set]
  rw [e1] at h1
  have hr1 := get_set (o' := .row ((c.set i (g c j)).map (.int .i64) ++ tl) ver (min s i) false) h
  have h2 := store_row (P := Try.prog) (u := 3) (p := j) sc3 (x := .int .i64 (g c i)) (y := .int .i64 ((c.set i (g c j))[j]'(by simpa using hj))) rfl hr1 (by rw [List.getElem?_append_left (by simpa using hj), List.getElem?_map, List.getElem?_eq_getElem (by simpa using hj)]; rfl)
  have e2 : ((c.set i (g c j)).map (AV.int .i64) ++ tl).set j (.int .i64 (g c i)) = (sw c i j).map (.int .i64) ++ tl := by rw [List.set_append_left _ _ (by simpa using hj), ← List.map_set]; rfl
  rw [e2] at h2
  exact ⟨_, _, h1, h2, ⟨_, get_set hr1⟩, ((KeepX.refl r H).set _).set _⟩
/-- A function whose sign compares by κ what is in D, as long as rows other than r stay. -/
def CmpG (φ : Int → Int → Int) (f : FuncId) (caps : List AV) (D : Int → Prop) (κ : Int → Int) (r : Nat) (H : AH) : Prop :=
  okFn Try.prog f = true ∧ (∀ x y, D x → D y → (φ x y < 0 ↔ κ x < κ y)) ∧ ∀ H', KeepX r H H' → ∀ x y, D x → D y → ∀ Q : AV → AH → Prop, Q (.int .i64 (φ x y)) H' → AC Try.prog f ([] ++ [.int .i64 x, .int .i64 y] ++ caps) H' Q
theorem CmpG.keep {φ : Int → Int → Int} {f : FuncId} {caps : List AV} {D : Int → Prop} {κ : Int → Int} {r : Nat} {H H1 : AH} (h : CmpG φ f caps D κ r H) (hK : KeepX r H H1) : CmpG φ f caps D κ r H1 := ⟨h.1, h.2.1, fun H' h1 => h.2.2 H' (hK.trans h1)⟩
set_option maxRecDepth 100000 in
theorem insertionG_ac (φ : Int → Int → Int) (f : FuncId) (caps : List AV) (D : Int → Prop) (κ : Int → Int) (r ver a b : Nat) (c : List Int) (H : AH) (Q : AV → AH → Prop) (hC : CmpG φ f caps D κ r H) (hr : RwT tl r ver H c) (hD : All D c) (hl : c.length ≤ 1000000) (hab : a ≤ b) (hb : b ≤ c.length)
    (h : ∀ (H' : AH) (m : List Int), Shuf a b c m → Srt κ a b m → RwT tl r ver H' m → KeepX r H H' → Q (.tuple []) H') : AC Try.prog 99 [.slice (some r) 0 c.length ver 1 false, .int .i64 a, .int .i64 b, .func (.func f) [] caps] H Q := by
  refine L_body 53 Try.func99 rfl rfl ?_
  generalize hn : c.length = n at *
  refine L_reg [0, 1, 2, 3, 8] (fun K hK => ?_)
  simp [wrap_i64 (a := (a : Int) + 1) (by omega)]
  apply hK; clear hK K
  refine L_block (L_loopV [8] (fun k vs H' => ∃ (i : Nat) (d : List Int), k = n - i ∧ a + 1 ≤ i ∧ i ≤ max (a + 1) b ∧ Shuf a b c d ∧ Srt κ a i d ∧ vs = [.int .i64 i] ∧ RwT tl r ver H' d ∧ KeepX r H H') _ [.int .i64 (a + 1 : Nat)] rfl ⟨a + 1, c, rfl, by omega, by omega, .refl _ _ _, fun p q h1 h2 h3 => by omega, rfl, hr, .refl r H⟩ ?_)
  rintro k _ H1 ⟨i, d, rfl, hi1, hi2, hS, ho, rfl, hrow, hK⟩
  refine L_reg [0, 1, 2, 3, 8, 14] (fun K hK => ?_)
  simp
  apply hK; clear hK K
  refine L_dec (i < b) (by simp) (fun hlt => ?_) (fun hge => L_exit ?_)
  · refine L_block ?_
    refine L_reg [0, 1, 2, 3, 8, 9] (fun K hK => ?_)
    simp
    apply hK; clear hK K
    refine L_block (L_loopV [9] (fun k vs H' => ∃ (j : Nat) (d : List Int), k = j ∧ a ≤ j ∧ j ≤ i ∧ Shuf a b c d ∧ (∀ p q, a ≤ p → p < q → q ≤ i → q ≠ j → κ (g d p) ≤ κ (g d q)) ∧ vs = [.int .i64 j] ∧ RwT tl r ver H' d ∧ KeepX r H H') _ [.int .i64 i] rfl ⟨i, d, rfl, by omega, by omega, hS, fun p q h1 h2 h3 h4 => ho p q h1 h2 (by omega), rfl, hrow, hK⟩ ?_)
    clear hS ho hrow hK d H1
    rintro k _ H1 ⟨j, d, rfl, haj, hj, hS, ho, rfl, hrow, hK⟩
    have hdl : d.length = n := by rw [hS.len]; exact hn
    have hdD := hD.perm hS.1
    by_cases hk : a < k
    · obtain ⟨j, rfl⟩ : ∃ j, k = j + 1 := ⟨k - 1, by omega⟩
      have hx := hrow.ld (i := j + 1) (by omega)
      have hy := hrow.ld (i := j) (by omega)
      have hw : IntKind.i64.wrap (j : Int) = (j : Int) := wrap_i64 (by omega)
      have hi1' : ((j : Int) + 1).toNat = j + 1 := by omega
      have g1 : (0 : Int) ≤ (j : Int) + 1 := by omega
      have g2 : (j : Int) + 1 < (n : Int) := by omega
      have g3 : j < n := by omega
      have g4 : (a : Int) < (j : Int) + 1 := by omega
      have hx0 := hdD (j + 1) (by omega)
      have hy0 := hdD j (by omega)
      have hCk := hC.keep hK
      refine L_regT mixed [0, 1, 2, 3, 8, 9, 34] (by kernel_rfl) (fun K hK => ?_)
      simp [hw, hi1', g1, g2, g3, g4, hx, hy, hCk.1]
      refine exC_mk (fun Q hQ => hCk.2.2 H1 (.refl _ _) _ _ hx0 hy0 Q hQ) ?_
      simp [pickV]
      apply hK; clear hK K
      by_cases hyx : κ (g d (j + 1)) < κ (g d j)
      · have hneg := (hCk.2.1 _ _ hx0 hy0).2 hyx
        refine L_true (by simp [hneg]) ?_
        obtain ⟨H2, H3, e1, e2, e3, e4⟩ := hrow.swap (i := j + 1) (j := j) (by omega) (by omega)
        refine L_block ?_
        refine L_regT mixed [0, 1, 2, 3, 8, 9] (by kernel_rfl) (fun K hK => ?_)
        simp [hw, hi1', g1, g2, g3, hx, hy, e1, e2]
        apply hK; clear hK K
        refine L_reg [0, 1, 2, 3, 8, 9] (fun K hK => ?_)
        simp [hw]
        apply hK; clear hK K
        refine ⟨j, [.int .i64 (j : Nat)], by omega, by simp, j, _, rfl, by omega, by omega, hS.trans (.swap (by omega) (by omega) (by omega)), fun p q h1 h2 h3 h4 => ?_, rfl, e3, hK.trans e4⟩
        have w0 := sw_i (c := d) (i := j + 1) (j := j) (by omega) (by omega)
        have w1 := sw_j (c := d) (i := j + 1) (j := j) (by omega) (by omega)
        have w2 := fun (k : Nat) (k1 : k ≠ j + 1) (k2 : k ≠ j) => sw_o (c := d) (i := j + 1) (j := j) (by omega) (by omega) k1 k2
        by_cases q1 : q = j + 1
        · subst q1
          by_cases p1 : p = j
          · subst p1; rw [w0, w1]; omega
          · rw [w0, w2 p (by omega) p1]
            exact ho p j h1 (by omega) (by omega) (by omega)
        · rw [w2 q q1 h4]
          by_cases p1 : p = j
          · subst p1; rw [w1]
            exact ho (p + 1) q (by omega) (by omega) h3 (by omega)
          · by_cases p2 : p = j + 1
            · subst p2; rw [w0]
              exact ho j q (by omega) (by omega) h3 (by omega)
            · rw [w2 p p2 p1]
              exact ho p q h1 h2 h3 (by omega)
      · have hneg : ¬ φ (g d (j + 1)) (g d j) < 0 := fun h => hyx ((hCk.2.1 _ _ hx0 hy0).1 h)
        refine L_false (by simp; omega) (L_exit ?_)
        refine L_reg [0, 1, 2, 3, 8] (fun K hK => ?_)
        simp [wrap_i64 (a := (i : Int) + 1) (by omega)]
        apply hK; clear hK K
        refine ⟨n - (i + 1), [.int .i64 (i + 1 : Nat)], by omega, by simp, i + 1, _, rfl, by omega, by omega, hS, fun p q h1 h2 h3 => ?_, rfl, hrow, hK⟩
        by_cases q1 : q = j + 1
        · subst q1
          by_cases p1 : p = j
          · subst p1; omega
          · have := ho p j h1 (by omega) (by omega) (by omega)
            omega
        · exact ho p q h1 h2 (by omega) q1
    · have hka : k = a := by omega
      subst hka
      refine L_regT mixed [0, 1, 2, 3, 8, 9, 34] (by kernel_rfl) (fun K hK => ?_)
      simp [pickV]
      apply hK; clear hK K
      refine L_false (by simp) (L_exit ?_)
      refine L_reg [0, 1, 2, 3, 8] (fun K hK => ?_)
      simp [wrap_i64 (a := (i : Int) + 1) (by omega)]
      apply hK; clear hK K
      exact ⟨n - (i + 1), [.int .i64 (i + 1 : Nat)], by omega, by simp, i + 1, _, rfl, by omega, by omega, hS, fun p q h1 h2 h3 => ho p q h1 h2 (by omega) (by omega), rfl, hrow, hK⟩
  · have hbi : b ≤ i := by omega
    refine ⟨.inl rfl, _, rfl, h H1 d hS (fun p q h1 h2 h3 => ho p q h1 h2 (by omega)) hrow hK⟩
set_option maxRecDepth 100000 in
theorem SortFuncG_ac (φ : Int → Int → Int) (f : FuncId) (caps : List AV) (D : Int → Prop) (κ : Int → Int) (r ver : Nat) (c : List Int) (H : AH) (Q : AV → AH → Prop) (hC : CmpG φ f caps D κ r H) (hr : RwT tl r ver H c) (hD : All D c) (hl : c.length ≤ 12)
    (h : ∀ (H' : AH) (m : List Int), Shuf 0 c.length c m → Srt κ 0 c.length m → RwT tl r ver H' m → KeepX r H H' → Q (.tuple []) H') : AC Try.prog 54 [.slice (some r) 0 c.length ver 1 false, .func (.func f) [] caps] H Q := by
  have hpdq : ∀ (k : Int) (Q : AV → AH → Prop), (∀ (H' : AH) (m : List Int), Shuf 0 c.length c m → Srt κ 0 c.length m → RwT tl r ver H' m → KeepX r H H' → Q (.tuple []) H') → AC Try.prog 84 [.slice (some r) 0 c.length ver 1 false, .int .i64 0, .int .i64 c.length, .int .i64 k, .func (.func f) [] caps] H Q := by
    intro k Q h
    refine L_body 148 Try.func84 rfl rfl ?_
    refine L_reg [0, 1, 2, 3, 4, 10] (fun K hK => ?_)
    simp
    apply hK; clear hK K
    refine L_reg [0, 1, 2, 3, 4, 10, 11] (fun K hK => ?_)
    simp
    apply hK; clear hK K
    refine L_block (L_loopV [1, 2, 3, 10, 11] (fun (_ : Nat) vs H' => vs = [.int .i64 0, .int .i64 c.length, .int .i64 k, .bool true, .bool true] ∧ H = H') 0 _ rfl ⟨rfl, rfl⟩ ?_)
    rintro _ _ _ ⟨rfl, rfl⟩
    refine L_block ?_
    refine L_reg [0, 1, 2, 3, 4, 10, 11, 12] (fun K hK => ?_)
    simp [wrap_i64 (a := (c.length : Int)) (by omega)]
    apply hK; clear hK K
    refine L_reg [0, 1, 2, 3, 4, 10, 11, 12, 25] (fun K hK => ?_)
    simp
    apply hK; clear hK K
    refine L_true (by simp; omega) ?_
    refine L_reg [] (fun K hK => ?_)
    simp [okFn_low]
    refine insertionG_ac φ f caps D κ r ver 0 c.length c H _ hC hr hD (by omega) (by omega) (by omega) (fun H3 m p1 p2 p3 p4 => ?_)
    simp
    apply hK; clear hK K
    exact L_ret ⟨.inr rfl, _, rfl, h H3 m p1 p2 p3 p4⟩
  refine L_body 14 Try.func54 rfl rfl ?_
  refine L_reg [0, 1, 4] (fun K hK => ?_)
  simp
  apply hK; clear hK K
  refine L_reg [] (fun K hK => ?_)
  simp [okFn_low, conv115 c.length (by omega)]
  refine Len_ac c.length hl H _ ?_
  simp [okFn_low]
  refine hpdq _ _ (fun H3 m p1 p2 p3 p4 => ?_)
  simp
  apply hK; clear hK K
  exact ⟨.inl rfl, _, rfl, h H3 m p1 p2 p3 p4⟩
end
end Go.Proofs.Ytbimapbcpmeooaa
