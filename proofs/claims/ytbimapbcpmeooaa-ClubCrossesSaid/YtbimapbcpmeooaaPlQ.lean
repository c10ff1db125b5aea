/- Tables of a plan are listed in order; a table among tables (reference). -/
/- Who sits with whom in a plan that is told, and what is wrong with the plan. -/
import Derived.Test.YtbimapbcpmeooaaPlP
import Derived.Test.YtbimapbcpmeooaaWMakes
namespace Go.Proofs.Ytbimapbcpmeooaa.Cl
open Go Go.Proofs.Ytbimapbcpmeooaa Go.Proofs.Ytbimapbcpmeooaa.AX
set_option maxRecDepth 100000
set_option linter.unusedVariables false
/-- The tables of one sorter with the k sorters from b on, and of all sorters from a on. -/
def rowG (p : Nat → Nat → Bool) (a : Nat) : Nat → Nat → List Ti
  | 0, _ => []
  | k + 1, b => (if p a b then [((a : Int), (b : Int))] else []) ++ rowG p a k (b + 1)
def tabG (p : Nat → Nat → Bool) (m : Nat) : Nat → Nat → List Ti
  | 0, _ => []
  | k + 1, a => rowG p a (m - (a + 1)) (a + 1) ++ tabG p m k (a + 1)
theorem rowG_len (p : Nat → Nat → Bool) (a : Nat) : ∀ k b, (rowG p a k b).length ≤ k
  | 0, _ => by simp [rowG]
  | k + 1, b => by
    have := rowG_len p a k (b + 1)
    rw [rowG, List.length_append]
    split <;> simp <;> omega
theorem hasT_up {T : List Ti} {i : Nat} (hi : i < T.length) {a b : Int} (h : ((T[i].1 == a && T[i].2 == b) || (T[i].1 == b && T[i].2 == a)) = true) : hasT T a b = true :=
  List.any_eq_true.2 ⟨T[i], List.getElem_mem _, h⟩
theorem hasR_q (T : List Ti) (a b : Int) (v : AV) (hT : T.length ≤ 1000000) (H : AH) (hv : Rs 2 H v (ti T)) (Q : AV → AH → Prop) (h : Q (.bool (hasT T a b)) H) : AC Try.prog 73 [v, .int .i64 a, .int .i64 b] H Q := by
  have hvl := ri_len hv
  refine L_body 32 Try.func73 rfl rfl ?_
  refine L_reg [0, 1, 2] (fun K hK => ?_)
  simp
  apply hK; clear hK K
  refine L_reg [0, 1, 2, 7] (fun K hK => ?_)
  simp
  apply hK; clear hK K
  refine L_block (L_loopV [7] (fun q vs H' => ∃ (i : Nat), q = T.length - i ∧ i ≤ T.length ∧ vs = [.int .i64 i] ∧ H = H' ∧ hasT (T.take i) a b = false) _ [.int .i64 (0 : Nat)] rfl ⟨0, rfl, by omega, rfl, rfl, rfl⟩ ?_)
  rintro q _ _ ⟨i, rfl, hi, rfl, rfl, hc⟩
  refine L_reg [0, 1, 2, 7, 11] (fun K hK => ?_)
  simp [hvl]
  apply hK; clear hK K
  refine L_dec (i < T.length) (by simp) (fun hlt => ?_) (fun hge => L_exit ?_)
  · refine L_block ?_
    obtain ⟨r1, p1, v1, x1, -, -, y1⟩ := ri_ix hv hlt
    have hTk : hasT (T.take (i + 1)) a b = ((T[i].1 == a && T[i].2 == b) || (T[i].1 == b && T[i].2 == a)) := by
      rw [List.take_add_one, List.getElem?_eq_getElem hlt]
      show hasT (T.take i ++ [T[i]]) a b = _
      rw [hasT_snoc, hc, Bool.false_or]
    have hbad := hasT_up hlt (a := a) (b := b)
    generalize T[i] = p at y1 hTk hbad
    obtain ⟨x, y⟩ := p
    cases e1 : (x == a && y == b) with
    | true =>
      refine L_reg [0, 1, 2, 7, 31] (fun K hK => ?_)
      simp [x1, y1, bd67, eq67b, e1, pickV]
      apply hK; clear hK K
      refine L_true rfl ?_
      refine L_reg [6] (fun K hK => ?_)
      simp
      apply hK; clear hK K
      exact L_ret ⟨.inr rfl, _, rfl, by rw [hbad (by simp [e1])] at h; exact h⟩
    | false =>
      cases e2 : (x == b && y == a) with
      | true =>
        refine L_reg [0, 1, 2, 7, 31] (fun K hK => ?_)
        simp [x1, y1, bd67, eq67b, e1, e2, pickV]
        apply hK; clear hK K
        refine L_true rfl ?_
        refine L_reg [6] (fun K hK => ?_)
        simp
        apply hK; clear hK K
        exact L_ret ⟨.inr rfl, _, rfl, by rw [hbad (by simp [e2])] at h; exact h⟩
      | false =>
        refine L_reg [0, 1, 2, 7, 31] (fun K hK => ?_)
        simp [x1, y1, bd67, eq67b, e1, e2, pickV]
        apply hK; clear hK K
        refine L_false rfl ?_
        refine L_reg [0, 1, 2, 7] (fun K hK => ?_)
        simp [wrap_i64 (a := (i : Int) + 1) (by omega)]
        apply hK; clear hK K
        exact ⟨T.length - (i + 1), [.int .i64 (i + 1 : Nat)], by omega, by simp, i + 1, rfl, by omega, rfl, rfl, by rw [hTk]; simp [e1, e2]⟩
  · have e : i = T.length := by omega
    subst e
    rw [List.take_length] at hc
    rw [hc] at h
    refine L_reg [6] (fun K hK => ?_)
    simp
    apply hK; clear hK K
    exact L_ret ⟨.inr rfl, _, rfl, h⟩
theorem ti_app (T S : List Ti) : ti (T ++ S) = ti T ++ ti S := by simp [ti]
theorem ownK_mono {k N M : Nat} {H : AH} {v : AV} {l : List (List AV)} (h : OwnK k N H v l) (hM : M ≤ N) : OwnK k M H v l := by
  obtain ⟨h1, h2⟩ := h
  refine ⟨h1, ?_⟩
  rcases h2 with h2 | ⟨r, ver, s, h3, h4⟩
  · exact .inl h2
  · exact .inr ⟨r, ver, s, by omega, h4⟩
theorem tabs_ac (n : Nat) (hn : n ≤ 8) (g : Nat → Nat → Bool) (w : Bool) (H : AH) (Q : AV → AH → Prop) (h : ∀ v' H', OwnK 2 H.length H' v' (ti (tabG (fun a b => g a b == w) n n 0)) → (tabG (fun a b => g a b == w) n n 0 = [] → v' = .slice none 0 0 0 1 false) → Ext H H' → Q v' H') : AC Try.prog 94 [.agg (se n g), .bool w] H Q := by
  refine L_body 37 Try.func94 rfl rfl ?_
  refine L_reg [1, 2] (fun K hK => ?_)
  simp [AV.isU, acells]
  apply hK; clear hK K
  have hr : (H ++ [AObj.row (se n g) 0 0 false])[H.length]? = some (.row (se n g) 0 0 false) := by simp
  have hE : Ext H (H ++ [AObj.row (se n g) 0 0 false]) := .push _ _
  generalize hr0 : H.length = r0 at *
  generalize H ++ [AObj.row (se n g) 0 0 false] = HA at *
  have e0 : ld HA r0 0 0 = some (.int .i64 n) := by rw [ld_row hr]; rfl
  refine L_reg [1, 2, 5] (fun K hK => ?_)
  simp
  apply hK; clear hK K
  refine L_reg [1, 2, 5, 9, 10] (fun K hK => ?_)
  simp [e0]
  apply hK; clear hK K
  refine L_block (L_loopV [5, 10] (fun q vs H' => ∃ (i : Nat) (u : AV) (A : List Ti), q = n - i ∧ i ≤ n ∧ A.length ≤ i * 8 ∧ vs = [u, .int .i64 i] ∧ Ext HA H' ∧ OwnK 2 HA.length H' u (ti A) ∧ (A = [] → u = .slice none 0 0 0 1 false) ∧ tabG (fun a b => g a b == w) n n 0 = A ++ tabG (fun a b => g a b == w) n (n - i) i) _ [.slice none 0 0 0 1 false, .int .i64 (0 : Nat)] rfl ⟨0, _, [], rfl, by omega, by simp, rfl, .refl _, OwnK.nil _ _ _, fun _ => rfl, by simp⟩ ?_)
  rintro q _ H1 ⟨i, u, A, rfl, hi, hA, rfl, hE1, ho, hz, hc⟩
  refine L_reg [1, 2, 5, 9, 10, 11] (fun K hK => ?_)
  simp
  apply hK; clear hK K
  refine L_dec (i < n) (by simp) (fun hlt => ?_) (fun hge => L_exit ?_)
  · refine L_block ?_
    rw [show n - i = (n - (i + 1)) + 1 by omega, tabG] at hc
    refine L_reg [1, 2, 5, 6, 9, 10] (fun K hK => ?_)
    simp
    apply hK; clear hK K
    refine L_reg [1, 2, 5, 6, 7, 9, 10] (fun K hK => ?_)
    simp [wrap_i64 (a := (i : Int) + 1) (by omega)]
    apply hK; clear hK K
    refine L_block (L_loopV [5, 7] (fun q vs H' => ∃ (j : Nat) (u : AV) (A : List Ti), q = n - j ∧ i < j ∧ j ≤ n ∧ A.length ≤ i * 8 + (j - (i + 1)) ∧ vs = [u, .int .i64 j] ∧ Ext HA H' ∧ OwnK 2 HA.length H' u (ti A) ∧ (A = [] → u = .slice none 0 0 0 1 false) ∧ tabG (fun a b => g a b == w) n n 0 = A ++ (rowG (fun a b => g a b == w) i (n - j) j ++ tabG (fun a b => g a b == w) n (n - (i + 1)) (i + 1))) _ [u, .int .i64 (i + 1 : Nat)] (by simp) ⟨i + 1, u, A, rfl, by omega, by omega, by omega, rfl, hE1, ho, hz, hc⟩ ?_)
    clear hc ho hA hE1 hz
    rintro q _ H1 ⟨j, u, A, rfl, hij, hj, hA, rfl, hE1, ho, hz, hc⟩
    have hrr := hE1.row hr
    have e1 : ld H1 r0 0 0 = some (.int .i64 n) := by rw [ld_row hrr]; rfl
    refine L_reg [1, 2, 5, 6, 7, 9, 10, 18] (fun K hK => ?_)
    simp [e1]
    apply hK; clear hK K
    refine L_dec (j < n) (by simp) (fun hjt => ?_) (fun hge => L_exit ?_)
    · refine L_block ?_
      have hg := se_get n g (show i < 8 by omega) (show j < 8 by omega)
      have hld : ld H1 r0 (1 + i * 8 + j) 0 = some (.bool (g i j)) := by rw [ld_row hrr, hg]; rfl
      rw [show n - j = (n - (j + 1)) + 1 by omega, rowG] at hc
      refine L_reg [1, 2, 5, 6, 7, 9, 10, 28] (fun K hK => ?_)
      simp [hld, show (i : Int) < 8 by omega, show (j : Int) < 8 by omega]
      apply hK; clear hK K
      by_cases c : (g i j == w) = true
      · refine L_true (by simp [c]) ?_
        rw [if_pos c] at hc
        obtain ⟨u', H3, happ, ho3, hE3⟩ := ownK_append hE1 ek32 ek32 (x := [.int .i64 (i : Int), .int .i64 (j : Int)]) (m := 2) ho rfl (by simp [AV.one]) (by rw [ti_len]; omega)
        refine L_reg [1, 2, 5, 6, 7, 9, 10] (fun K hK => ?_)
        simp [bd67, row32, happ]
        apply hK; clear hK K
        refine L_reg [1, 2, 5, 6, 7, 9, 10] (fun K hK => ?_)
        simp [wrap_i64 (a := (j : Int) + 1) (by omega)]
        apply hK; clear hK K
        refine ⟨n - (j + 1), [u', .int .i64 (j + 1 : Nat)], by omega, by simp, j + 1, u', A ++ [((i : Int), (j : Int))], rfl, by omega, by omega, by simp; omega, rfl, hE3, by rw [ti_app]; exact ho3, fun e => by simp at e, by rw [hc]; simp⟩
      · refine L_false (by simpa using c) ?_
        rw [if_neg c] at hc
        refine L_reg [1, 2, 5, 6, 7, 9, 10] (fun K hK => ?_)
        simp [wrap_i64 (a := (j : Int) + 1) (by omega)]
        apply hK; clear hK K
        exact ⟨n - (j + 1), [u, .int .i64 (j + 1 : Nat)], by omega, by simp, j + 1, u, A, rfl, by omega, by omega, by omega, rfl, hE1, ho, hz, by rw [hc]; simp⟩
    · have : n - j = 0 := by omega
      rw [this, rowG, List.nil_append] at hc
      refine L_reg [1, 2, 5, 9, 10] (fun K hK => ?_)
      simp [wrap_i64 (a := (i : Int) + 1) (by omega)]
      apply hK; clear hK K
      exact ⟨n - (i + 1), [u, .int .i64 (i + 1 : Nat)], by omega, by simp, i + 1, u, A, rfl, by omega, by omega, rfl, hE1, ho, hz, hc⟩
  · have : n - i = 0 := by omega
    rw [this, tabG, List.append_nil] at hc
    rw [← hc] at ho hz
    refine L_reg [4] (fun K hK => ?_)
    simp
    apply hK; clear hK K
    exact L_ret ⟨.inr rfl, _, rfl, h _ _ (ownK_mono ho (by have := hE.1; omega)) hz (hE.trans hE1)⟩
end Go.Proofs.Ytbimapbcpmeooaa.Cl
namespace Go.Proofs.Ytbimapbcpmeooaa.Cl
open Go Go.Proofs.Ytbimapbcpmeooaa Go.Proofs.Ytbimapbcpmeooaa.AX
set_option maxRecDepth 100000
set_option linter.unusedVariables false
abbrev ff : Nat → Nat → Bool := fun _ _ => false
theorem zt99s : zeroT Try.prog 99 = some (se 0 ff) := by rw [zt99, se, bl_zero]
theorem built99_0 : aBuilt Try.prog 99 [] = some (se 0 ff) := by kernel_rfl
theorem built99 (n : Int) : aBuilt Try.prog 99 [(0, .int .i64 n)] = some (se n ff) := by kernel_rfl
theorem se_def (n : Int) (g : Nat → Nat → Bool) : ∀ x ∈ se n g, x ≠ .undef := fun x hx e => by
  have := se_one n g x hx
  rw [e] at this; cases this
theorem st_se {H : AH} {r s : Nat} {n m : Int} {f g : Nat → Nat → Bool} (hr : H[r]? = some (.row (se m f) 0 s false)) : storeV Try.prog 99 H (.ptr r 0 0) (.agg (se n g)) = some (none, H.set r (.row (se n g) 0 0 false)) :=
  store_agg ag99 hr (by decide) (se_len _ _) (se_def _ _) (se_len _ _) (se_one _ _)
theorem ld_se {H : AH} {r s : Nat} {n : Int} {g : Nat → Nat → Bool} (hr : H[r]? = some (.row (se n g) 0 s false)) : loadV Try.prog 99 H (.ptr r 0 0) = some (.agg (se n g)) := by
  rw [ld99, se_load hr]; rfl
theorem upd_snoc (L : List Ti) {a b : Int} (ha : 0 ≤ a) (hb : 0 ≤ b) : updG (updG (gT L) a.toNat b.toNat) b.toNat a.toNat = gT (L ++ [(a, b)]) := by
  funext x y
  unfold updG gT
  rw [hasT_snoc]
  by_cases c1 : x = b.toNat ∧ y = a.toNat
  · obtain ⟨rfl, rfl⟩ := c1
    simp [Int.toNat_of_nonneg ha, Int.toNat_of_nonneg hb]
  · rw [if_neg c1]
    by_cases c2 : x = a.toNat ∧ y = b.toNat
    · obtain ⟨rfl, rfl⟩ := c2
      simp [Int.toNat_of_nonneg ha, Int.toNat_of_nonneg hb]
    · rw [if_neg c2]
      have e1 : (a == (x : Int) && b == (y : Int)) = false := by
        rw [Bool.and_eq_false_iff]
        rcases Decidable.em (x = a.toNat) with h | h
        · right; rw [beq_eq_false_iff_ne]; intro h2; exact c2 ⟨h, by omega⟩
        · left; rw [beq_eq_false_iff_ne]; omega
      have e2 : (a == (y : Int) && b == (x : Int)) = false := by
        rw [Bool.and_eq_false_iff]
        rcases Decidable.em (y = a.toNat) with h | h
        · right; rw [beq_eq_false_iff_ne]; intro h2; exact c1 ⟨by omega, h⟩
        · left; rw [beq_eq_false_iff_ne]; omega
      simp only [e1, e2, Bool.or_self, Bool.or_false]
theorem seatingOf_ac (n : Int) (T : List Ti) (v : AV) (hT : T.length ≤ 1000000) (H : AH) (hv : Rs 2 H v (ti T)) (Q : AV → AH → Prop) (h1 : errP n T ≠ 0 → ∀ H', Ext H H' → Q (.tuple [.agg (se 0 ff), .int .i64 (errP n T)]) H') (h2 : errP n T = 0 → ∀ H', Ext H H' → Q (.tuple [.agg (se n (gT T)), .int .i64 0]) H') : AC Try.prog 77 [.agg [.int .i64 n, v]] H Q := by
  have hu1 := rs_one hv
  obtain ⟨I99, i99, z99⟩ := zeroT_some zt99s
  obtain ⟨I67, i67, z67⟩ := zeroT_some zt67
  refine L_body 43 Try.func77 rfl rfl ?_
  refine L_reg [1, 2, 3] (fun K hK => ?_)
  simp [AV.isU, acells, i99, z99]
  apply hK; clear hK K
  change AWL _ _ _ _ (H ++ [AObj.row [.int .i64 n, v] 0 0 false, .row (se 0 ff) 0 0 false]) _
  have hE : Ext H (H ++ [AObj.row [.int .i64 n, v] 0 0 false, .row (se 0 ff) 0 0 false]) := .push _ _
  have r1 : (H ++ [AObj.row [.int .i64 n, v] 0 0 false, .row (se 0 ff) 0 0 false])[H.length]? = some (.row [.int .i64 n, v] 0 0 false) := by simp
  have r2 : (H ++ [AObj.row [.int .i64 n, v] 0 0 false, .row (se 0 ff) 0 0 false])[H.length + 1]? = some (.row (se 0 ff) 0 0 false) := by simp
  have hlA : (H ++ [AObj.row [.int .i64 n, v] 0 0 false, .row (se 0 ff) 0 0 false]).length = H.length + 2 := by simp
  generalize H ++ [AObj.row [.int .i64 n, v] 0 0 false, .row (se 0 ff) 0 0 false] = HA at *
  have e1 : ld HA H.length 0 0 = some (.int .i64 n) := by rw [ld_row r1]; rfl
  have e3 : ld HA H.length 1 0 = some v := by rw [ld_row r1]; exact known_one hu1
  have hvA := hv.ext hE
  have hvl := ri_len hv
  -- an answer
  have fin : ∀ (HX : AH) (m : Int) (g : Nat → Nat → Bool), Ext HA HX → storeV Try.prog 99 HX (.ptr (H.length + 1) 0 0) (.agg (se m g)) = some (none, HX.set (H.length + 1) (.row (se m g) 0 0 false)) ∧ loadV Try.prog 99 (HX.set (H.length + 1) (.row (se m g) 0 0 false)) (.ptr (H.length + 1) 0 0) = some (.agg (se m g)) ∧ Ext H (HX.set (H.length + 1) (.row (se m g) 0 0 false)) := by
    intro HX m g hX
    have k := hX.row r2
    exact ⟨st_se k, ld_se (get_set k), (hE.trans hX).set _ (by omega)⟩
  have bad : ∀ e : Int, errP n T = e → e ≠ 0 → ∀ HX, Ext HA HX → Q (.tuple [.agg (se 0 ff), .int .i64 e]) (HX.set (H.length + 1) (.row (se 0 ff) 0 0 false)) := fun e he hn HX hX => by
    have := h1 (by rw [he]; exact hn) _ (fin HX 0 ff hX).2.2
    rwa [he] at this
  by_cases c1 : n < 1
  · have c1' : decide (n < 1) = true := decide_eq_true c1
    refine L_reg [1, 2, 15] (fun K hK => ?_)
    simp [e1, c1, pickV]
    apply hK; clear hK K
    refine L_true rfl ?_
    obtain ⟨k1, k2, k3⟩ := fin HA 0 ff (.refl _)
    refine L_reg [2, 3] (fun K hK => ?_)
    simp [built99_0, k1]
    apply hK; clear hK K
    exact L_ret ⟨.inr rfl, _, res21 rfl k2 rfl, bad 1 (by unfold errP; rw [if_neg (by omega)]) (by decide) _ (.refl _)⟩
  by_cases c2 : 8 < n
  · refine L_reg [1, 2, 15] (fun K hK => ?_)
    simp [e1, c1, c2, pickV]
    apply hK; clear hK K
    refine L_true rfl ?_
    obtain ⟨k1, k2, k3⟩ := fin HA 0 ff (.refl _)
    refine L_reg [2, 3] (fun K hK => ?_)
    simp [built99_0, k1]
    apply hK; clear hK K
    exact L_ret ⟨.inr rfl, _, res21 rfl k2 rfl, bad 1 (by unfold errP; rw [if_neg (by omega)]) (by decide) _ (.refl _)⟩
  refine L_reg [1, 2, 15] (fun K hK => ?_)
  simp [e1, c1, c2, pickV]
  apply hK; clear hK K
  refine L_false rfl ?_
  refine L_reg [1, 2, 20] (fun K hK => ?_)
  simp [e3, hvl]
  apply hK; clear hK K
  refine L_dec (28 < T.length) (by simp; omega) (fun c3 => ?_) (fun c3 => ?_)
  · obtain ⟨k1, k2, k3⟩ := fin HA 0 ff (.refl _)
    refine L_reg [2, 3] (fun K hK => ?_)
    simp [built99_0, k1]
    apply hK; clear hK K
    exact L_ret ⟨.inr rfl, _, res21 rfl k2 rfl, bad 3 (by unfold errP; rw [if_pos (by omega), if_pos c3]) (by decide) _ (.refl _)⟩
  have hP : errP n T = errT n [] T := by unfold errP; rw [if_pos (by omega), if_neg c3]
  have r4 : (HA ++ [AObj.row (se 0 ff) 0 0 false])[HA.length]? = some (.row (se 0 ff) 0 0 false) := by simp
  have hst4 := st_se (n := n) (g := ff) r4
  refine L_reg [1, 2, 4] (fun K hK => ?_)
  simp [e1, i99, z99, built99, hst4]
  apply hK; clear hK K
  have r4' := get_set (o' := .row (se n ff) 0 0 false) r4
  have hEB : Ext HA ((HA ++ [AObj.row (se 0 ff) 0 0 false]).set HA.length (.row (se n ff) 0 0 false)) := (Ext.push _ _).set _ (Nat.le_refl _)
  simp only [List.set_append_right _ _ (Nat.le_refl HA.length), Nat.sub_self, List.set_cons_zero] at r4' hEB ⊢
  generalize HA ++ [AObj.row (se n ff) 0 0 false] = HB at *
  refine L_reg [2, 4, 26, 27, 28] (fun K hK => ?_)
  simp [hEB.ld e3, hvl]
  apply hK; clear hK K
  refine L_block (L_loopV [28] (fun q vs H' => ∃ (i s : Nat), q = T.length - i ∧ i ≤ T.length ∧ vs = [.int .i64 i] ∧ Ext HA H' ∧ H'[HA.length]? = some (.row (se n (gT (T.take i))) 0 s false) ∧ errT n (T.take i) (T.drop i) = errP n T) _ [.int .i64 (0 : Nat)] rfl ⟨0, 0, rfl, by omega, rfl, hEB, r4', hP.symm⟩ ?_)
  rintro q _ H1 ⟨i, s, rfl, hi, rfl, hE1, hr4, hc⟩
  clear r4 hst4 r4' hEB
  refine L_reg [2, 4, 26, 27, 28, 29] (fun K hK => ?_)
  simp
  apply hK; clear hK K
  refine L_dec (i < T.length) (by simp) (fun hlt => ?_) (fun hge => L_exit ?_)
  · refine L_block ?_
    obtain ⟨r', p', v', x1, -, -, y1⟩ := ri_ix (hvA.ext hE1) hlt
    have hTk : T.take (i + 1) = T.take i ++ [T[i]] := by rw [List.take_add_one, List.getElem?_eq_getElem hlt]; rfl
    rw [List.drop_eq_getElem_cons hlt] at hc
    generalize T[i] = p at y1 hTk hc
    obtain ⟨x, y⟩ := p
    have r6 : (H1 ++ [AObj.row [.int .i64 0, .int .i64 0] 0 0 false])[H1.length]? = some (.row [.int .i64 0, .int .i64 0] 0 0 false) := by simp
    have hst6 := st_two (u := 67) ag67 (x := .int .i64 x) (y := .int .i64 y) r6 (by simp) (by simp) rfl rfl
    refine L_reg [2, 4, 6, 26, 27, 28] (fun K hK => ?_)
    simp [x1, y1, i67, z67, hst6]
    apply hK; clear hK K
    have r6' := get_set (o' := .row [.int .i64 x, .int .i64 y] 0 0 false) r6
    have hE2 : Ext H1 ((H1 ++ [AObj.row [.int .i64 0, .int .i64 0] 0 0 false]).set H1.length (.row [.int .i64 x, .int .i64 y] 0 0 false)) := (Ext.push _ _).set _ (Nat.le_refl _)
    simp only [List.set_append_right _ _ (Nat.le_refl H1.length), Nat.sub_self, List.set_cons_zero] at r6' hE2 ⊢
    generalize H1 ++ [AObj.row [.int .i64 x, .int .i64 y] 0 0 false] = H2 at *
    have f0 : ld H2 H1.length 0 0 = some (.int .i64 x) := by rw [ld_row r6']; rfl
    have f1 : ld H2 H1.length 1 0 = some (.int .i64 y) := by rw [ld_row r6']; rfl
    have hr4' := hE2.row hr4
    have hE12 := hE1.trans hE2
    rw [errT] at hc
    refine L_reg [2, 4, 7, 26, 27, 28] (fun K hK => ?_)
    simp [okFn_low, f0, f1]
    refine add_ac n (by omega) _ _ _ x y _ hr4' _ (fun c => ?_) (fun c d => ?_) (fun d c e => ?_) (fun d c e H3 s3 k1 k2 => ?_)
    · simp
      apply hK; clear hK K
      refine L_reg [2, 4, 7, 26, 27, 28, 38] (fun K hK => ?_)
      simp
      apply hK; clear hK K
      refine L_true (by simp) ?_
      obtain ⟨k1, k2, k3⟩ := fin H2 0 ff hE12
      refine L_reg [2, 3] (fun K hK => ?_)
      simp [built99_0, k1]
      apply hK; clear hK K
      exact L_ret ⟨.inr rfl, _, res21 rfl k2 rfl, bad 2 (by rw [← hc, if_neg c]) (by decide) _ hE12⟩
    · simp
      apply hK; clear hK K
      refine L_reg [2, 4, 7, 26, 27, 28, 38] (fun K hK => ?_)
      simp
      apply hK; clear hK K
      refine L_true (by simp) ?_
      obtain ⟨k1, k2, k3⟩ := fin H2 0 ff hE12
      refine L_reg [2, 3] (fun K hK => ?_)
      simp [built99_0, k1]
      apply hK; clear hK K
      exact L_ret ⟨.inr rfl, _, res21 rfl k2 rfl, bad 13 (by rw [← hc, if_pos d, if_pos c]) (by decide) _ hE12⟩
    · have d' := d
      simp only [okS, Bool.and_eq_true, decide_eq_true_eq] at d'
      have e' : hasT (T.take i) x y = true := by
        have : gT (T.take i) x.toNat y.toNat = true := e
        unfold gT at this
        rwa [Int.toNat_of_nonneg d'.1.1, Int.toNat_of_nonneg d'.2.1] at this
      simp
      apply hK; clear hK K
      refine L_reg [2, 4, 7, 26, 27, 28, 38] (fun K hK => ?_)
      simp
      apply hK; clear hK K
      refine L_true (by simp) ?_
      obtain ⟨k1, k2, k3⟩ := fin H2 0 ff hE12
      refine L_reg [2, 3] (fun K hK => ?_)
      simp [built99_0, k1]
      apply hK; clear hK K
      exact L_ret ⟨.inr rfl, _, res21 rfl k2 rfl, bad 6 (by rw [← hc, if_pos d, if_neg c, if_pos e']) (by decide) _ hE12⟩
    · have d' := d
      simp only [okS, Bool.and_eq_true, decide_eq_true_eq] at d'
      have e' : ¬ hasT (T.take i) x y = true := by
        have : gT (T.take i) x.toNat y.toNat = false := e
        unfold gT at this
        rw [Int.toNat_of_nonneg d'.1.1, Int.toNat_of_nonneg d'.2.1] at this
        simp [this]
      rw [if_pos d, if_neg c, if_neg e', ← hTk] at hc
      rw [upd_snoc _ d'.1.1 d'.2.1, ← hTk] at k1
      simp
      apply hK; clear hK K
      refine L_reg [2, 4, 7, 26, 27, 28, 38] (fun K hK => ?_)
      simp
      apply hK; clear hK K
      refine L_false (by simp) ?_
      refine L_reg [2, 4, 26, 27, 28] (fun K hK => ?_)
      simp [wrap_i64 (a := (i : Int) + 1) (by omega)]
      apply hK; clear hK K
      exact ⟨T.length - (i + 1), [.int .i64 (i + 1 : Nat)], by omega, by simp, i + 1, s3, rfl, by omega, rfl, k2.new hE12 (Nat.le_refl _), k1, hc⟩
  · have e : i = T.length := by omega
    subst e
    rw [List.take_length] at hr4 hc
    rw [List.drop_length, errT] at hc
    obtain ⟨k1, k2, k3⟩ := fin H1 n (gT T) hE1
    refine L_reg [2, 3] (fun K hK => ?_)
    simp [se_load hr4, k1]
    apply hK; clear hK K
    exact L_ret ⟨.inr rfl, _, res21 rfl k2 rfl, h2 hc.symm _ k3⟩
end Go.Proofs.Ytbimapbcpmeooaa.Cl
