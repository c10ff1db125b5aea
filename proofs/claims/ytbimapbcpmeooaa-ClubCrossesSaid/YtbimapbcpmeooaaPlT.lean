/- The reference's tidy plan. -/
/- A plan is tidied; what is asked of a plan. -/
/- Two tables are exchanged: the list of tables. -/
import Derived.Test.YtbimapbcpmeooaaPlS
namespace Go.Proofs.Ytbimapbcpmeooaa.Cl
open Go Go.Proofs.Ytbimapbcpmeooaa Go.Proofs.Ytbimapbcpmeooaa.AX
set_option maxRecDepth 100000
set_option linter.unusedVariables false
theorem ownK_set {k N : Nat} {H : AH} {v : AV} {l : List (List AV)} (h : OwnK k N H v l) {j : Nat} (hj : j < N) (o : AObj) : OwnK k N (H.set j o) v l := by
  obtain ⟨h1, h2⟩ := h
  refine ⟨h1, ?_⟩
  rcases h2 with h2 | ⟨r, ver, s, h3, h4, h5⟩
  · exact .inl h2
  · exact .inr ⟨r, ver, s, h3, h4, by rw [List.getElem?_set_ne (by omega)]; exact h5⟩
theorem take_ext {A : AH} {n : Nat} (h : n ≤ A.length) : Ext (A.take n) A := ⟨by simp; omega, fun j hj => by simp at hj; rw [List.getElem?_take, if_pos (by omega)]⟩
theorem st_part {u : TypeId} (hsc : scal Try.prog u = true) {H : AH} {r s : Nat} {x y z : AV} (hr : H[r]? = some (.row [x, y] 0 s false)) (hy : y.one = true) (hz : z.one = true) : storeV Try.prog u H (.ptr r 1 0) z = some (none, H.set r (.row [x, z] 0 (min s 1) false)) := by
  rw [store_row hsc hz hr (p := 1) (y := y) (known_one hy)]
  simp
theorem own_one {k N : Nat} {H : AH} {v : AV} {l : List (List AV)} (h : OwnK k N H v l) : v.one = true := by
  obtain ⟨-, ⟨-, rfl⟩ | ⟨r, ver, s, -, rfl, -⟩⟩ := h <;> rfl
theorem res1 {P : Program} {fn : Func} {e : Env} {H : AH} {b1 : Tmp} {t1 : TypeId} {v1 : AV} (hr : fn.results = #[.cell b1 t1]) (h1 : loadV P t1 H (eget e b1) = some v1) : aResults P fn e H = some v1 := by
  have g1 : aRes1 P e H (.cell b1 t1) = some v1 := h1
  simp [aResults, hr, aResList, g1]
theorem tidyR_ac (n : Int) (h0 : 0 ≤ n) (hn : n ≤ 8) (T : List Ti) (v : AV) (hT : T.length ≤ 1000000) (w : Bool) (H : AH) (hv : Rs 2 H v (ti T)) (Q : AV → AH → Prop) (h : ∀ v' H', OwnK 2 H.length H' v' (ti (tabG (fun a b => hasT T a b != w) n.toNat n.toNat 0)) → Ext H H' → Q (.agg [.int .i64 n, v']) H') : AC Try.prog 75 [.int .i64 n, v, .bool w] H Q := by
  obtain ⟨I37, i37, z37⟩ := zeroT_some zt37
  obtain ⟨m, rfl⟩ : ∃ m : Nat, n = m := ⟨n.toNat, by omega⟩
  rw [Int.toNat_natCast] at h
  have hu1 := rs_one hv
  refine L_body 39 Try.func75 rfl rfl ?_
  refine L_reg [0, 1, 2, 6] (fun K hK => ?_)
  simp [i37, z37]
  apply hK; clear hK K
  change AWL _ _ _ _ (H ++ [AObj.row [.int .i64 0, .slice none 0 0 0 1 false] 0 0 false]) _
  have hE : Ext H (H ++ [AObj.row [.int .i64 0, .slice none 0 0 0 1 false] 0 0 false]) := .push _ _
  have r6 : (H ++ [AObj.row [.int .i64 0, .slice none 0 0 0 1 false] 0 0 false])[H.length]? = some (.row [.int .i64 0, .slice none 0 0 0 1 false] 0 0 false) := by simp
  have hlA : (H ++ [AObj.row [.int .i64 0, .slice none 0 0 0 1 false] 0 0 false]).length = H.length + 1 := by simp
  generalize H ++ [AObj.row [.int .i64 0, .slice none 0 0 0 1 false] 0 0 false] = HA at *
  have r7 : (HA ++ [AObj.row [.int .i64 0, .slice none 0 0 0 1 false] 0 0 false])[HA.length]? = some (.row [.int .i64 0, .slice none 0 0 0 1 false] 0 0 false) := by simp
  have hst7 := st_two (u := 37) ag37 (x := .int .i64 (m : Int)) (y := .slice none 0 0 0 1 false) r7 (by simp) (by simp) rfl rfl
  have b37 : aBuilt Try.prog 37 [(0, .int .i64 (m : Int))] = some [.int .i64 (m : Int), .slice none 0 0 0 1 false] := by kernel_rfl
  refine L_reg [0, 1, 2, 6, 7] (fun K hK => ?_)
  simp [i37, z37, b37, hst7]
  apply hK; clear hK K
  have r7' := get_set (o' := .row [.int .i64 (m : Int), .slice none 0 0 0 1 false] 0 0 false) r7
  have hEB : Ext HA ((HA ++ [AObj.row [.int .i64 0, .slice none 0 0 0 1 false] 0 0 false]).set HA.length (.row [.int .i64 (m : Int), .slice none 0 0 0 1 false] 0 0 false)) := (Ext.push _ _).set _ (Nat.le_refl _)
  have hlB : ((HA ++ [AObj.row [.int .i64 0, .slice none 0 0 0 1 false] 0 0 false]).set HA.length (.row [.int .i64 (m : Int), .slice none 0 0 0 1 false] 0 0 false)).length = HA.length + 1 := by simp
  simp only [List.set_append_right _ _ (Nat.le_refl HA.length), Nat.sub_self, List.set_cons_zero] at r7' hEB hlB ⊢
  generalize HA ++ [AObj.row [.int .i64 (m : Int), .slice none 0 0 0 1 false] 0 0 false] = HB at *
  clear hst7 r7 b37
  have hvA := hv.ext hE
  have hp : ∀ a b : Nat, ((hasT T a b != w) = true) ↔ hasT T a b ≠ w := fun a b => by simp
  refine L_reg [0, 1, 2, 6, 7, 8] (fun K hK => ?_)
  simp
  apply hK; clear hK K
  refine L_block (L_loopV [8] (fun q vs H' => ∃ (i s : Nat) (u : AV) (A : List Ti), q = m - i ∧ i ≤ m ∧ A.length ≤ i * 8 ∧ vs = [.int .i64 i] ∧ Ext HA H' ∧ HB.length ≤ H'.length ∧ H'[HA.length]? = some (.row [.int .i64 (m : Int), u] 0 s false) ∧ OwnK 2 HB.length H' u (ti A) ∧ tabG (fun a b => hasT T a b != w) m m 0 = A ++ tabG (fun a b => hasT T a b != w) m (m - i) i) _ [.int .i64 (0 : Nat)] rfl ⟨0, 0, _, [], rfl, by omega, by simp, rfl, hEB, Nat.le_refl _, r7', OwnK.nil _ _ _, by simp⟩ ?_)
  rintro q _ H1 ⟨i, s, u, A, rfl, hi, hA, rfl, hE1, hl1, hr, ho, hc⟩
  refine L_reg [0, 1, 2, 6, 7, 8, 14] (fun K hK => ?_)
  simp
  apply hK; clear hK K
  refine L_dec (i < m) (by simp) (fun hlt => ?_) (fun hge => L_exit ?_)
  · refine L_block ?_
    rw [show m - i = (m - (i + 1)) + 1 by omega, tabG] at hc
    refine L_reg [0, 1, 2, 6, 7, 8, 9] (fun K hK => ?_)
    simp [wrap_i64 (a := (i : Int) + 1) (by omega)]
    apply hK; clear hK K
    refine L_block (L_loopV [9] (fun q vs H' => ∃ (j s : Nat) (u : AV) (A : List Ti), q = m - j ∧ i < j ∧ j ≤ m ∧ A.length ≤ i * 8 + (j - (i + 1)) ∧ vs = [.int .i64 j] ∧ Ext HA H' ∧ HB.length ≤ H'.length ∧ H'[HA.length]? = some (.row [.int .i64 (m : Int), u] 0 s false) ∧ OwnK 2 HB.length H' u (ti A) ∧ tabG (fun a b => hasT T a b != w) m m 0 = A ++ (rowG (fun a b => hasT T a b != w) i (m - j) j ++ tabG (fun a b => hasT T a b != w) m (m - (i + 1)) (i + 1))) _ [.int .i64 (i + 1 : Nat)] (by simp) ⟨i + 1, s, u, A, rfl, by omega, by omega, by omega, rfl, hE1, hl1, hr, ho, hc⟩ ?_)
    clear hc ho hA hE1 hr hl1
    rintro q _ H1 ⟨j, s, u, A, rfl, hij, hj, hA, rfl, hE1, hl1, hr, ho, hc⟩
    refine L_reg [0, 1, 2, 6, 7, 8, 9, 21] (fun K hK => ?_)
    simp
    apply hK; clear hK K
    refine L_dec (j < m) (by simp) (fun hjt => ?_) (fun hge => L_exit ?_)
    · refine L_block ?_
      rw [show m - j = (m - (j + 1)) + 1 by omega, rowG] at hc
      refine L_reg [0, 1, 2, 6, 7, 8, 9, 29] (fun K hK => ?_)
      simp [okFn_low]
      refine hasR_q T i j v hT _ (hvA.ext hE1) _ ?_
      simp
      apply hK; clear hK K
      by_cases c : (hasT T i j != w) = true
      · refine L_true (by simpa using c) ?_
        rw [if_pos c] at hc
        have hu := own_one ho
        have hld : ld H1 HA.length 1 0 = some u := by rw [ld_row hr]; exact known_one hu
        have ht : (H1.take HB.length).length = HB.length := by simp; omega
        obtain ⟨u', H3, happ, ho3, hE3⟩ := ownK_append (take_ext hl1) ek32 ek32 (x := [.int .i64 (i : Int), .int .i64 (j : Int)]) (m := 2) (by rw [ht]; exact ho) rfl (by simp [AV.one]) (by rw [ti_len]; omega)
        rw [ht] at ho3
        have hr3 : H3[HA.length]? = some (.row [.int .i64 (m : Int), u] 0 s false) := by
          rw [hE3.2 _ (by rw [ht]; omega), List.getElem?_take, if_pos (by omega)]; exact hr
        have hu' := own_one ho3
        have hst := st_part (u := 32) sc32 hr3 hu hu'
        have hl3 : HB.length ≤ H3.length := by have := hE3.1; omega
        have hEA3 : Ext HA H3 := by
          refine ⟨by omega, fun k hk => ?_⟩
          rw [hE3.2 _ (by rw [ht]; omega), List.getElem?_take, if_pos (by omega), hE1.2 k hk]
        refine L_reg [0, 1, 2, 6, 7, 8, 9] (fun K hK => ?_)
        simp [bd67, row32, hld, happ, hst]
        apply hK; clear hK K
        refine L_reg [0, 1, 2, 6, 7, 8, 9] (fun K hK => ?_)
        simp [wrap_i64 (a := (j : Int) + 1) (by omega)]
        apply hK; clear hK K
        refine ⟨m - (j + 1), [.int .i64 (j + 1 : Nat)], by omega, by simp, j + 1, min s 1, u', A ++ [((i : Int), (j : Int))], rfl, by omega, by omega, by simp; omega, rfl, hEA3.set _ (Nat.le_refl _), by simpa using hl3, get_set hr3, ownK_set (by rw [ti_app]; exact ho3) (by omega) _, by rw [hc]; simp⟩
      · refine L_false (by simpa using c) ?_
        rw [if_neg c] at hc
        refine L_reg [0, 1, 2, 6, 7, 8, 9] (fun K hK => ?_)
        simp [wrap_i64 (a := (j : Int) + 1) (by omega)]
        apply hK; clear hK K
        exact ⟨m - (j + 1), [.int .i64 (j + 1 : Nat)], by omega, by simp, j + 1, s, u, A, rfl, by omega, by omega, by omega, rfl, hE1, hl1, hr, ho, by rw [hc]; simp⟩
    · have : m - j = 0 := by omega
      rw [this, rowG, List.nil_append] at hc
      refine L_reg [0, 1, 2, 6, 7, 8] (fun K hK => ?_)
      simp [wrap_i64 (a := (i : Int) + 1) (by omega)]
      apply hK; clear hK K
      exact ⟨m - (i + 1), [.int .i64 (i + 1 : Nat)], by omega, by simp, i + 1, s, u, A, rfl, by omega, by omega, rfl, hE1, hl1, hr, ho, hc⟩
  · have : m - i = 0 := by omega
    rw [this, tabG, List.append_nil] at hc
    rw [← hc] at ho
    have hu := own_one ho
    have l7 := ld_two (u := 37) ag37 hr rfl hu
    rw [ld37] at l7
    have hr6 := hE1.row r6
    have hst := st_two (u := 37) ag37 (x := .int .i64 (m : Int)) (y := u) hr6 (by simp) (by simp) rfl hu
    have k6 := get_set (o' := .row [.int .i64 (m : Int), u] 0 0 false) hr6
    refine L_reg [6] (fun K hK => ?_)
    simp [l7, hst]
    apply hK; clear hK K
    exact L_ret ⟨.inr rfl, _, res1 rfl (ld_two ag37 k6 rfl hu), h _ _ (ownK_mono (ownK_set ho (by omega) _) (by omega)) ((hE.trans hE1).set _ (Nat.le_refl _))⟩
end Go.Proofs.Ytbimapbcpmeooaa.Cl
namespace Go.Proofs.Ytbimapbcpmeooaa.Cl
open Go Go.Proofs.Ytbimapbcpmeooaa Go.Proofs.Ytbimapbcpmeooaa.AX
set_option maxRecDepth 100000
set_option linter.unusedVariables false
theorem ti_ok (T : List Ti) : rowsOk 2 (ti T) := fun x hx => by
  obtain ⟨p, -, rfl⟩ := List.mem_map.1 hx
  exact ⟨rfl, by simp [AV.one]⟩
theorem belB_ti (N : Nat) (T : List Ti) : ((ti T).flatten).all (belB N 4) = true := by
  rw [List.all_eq_true]
  intro x hx
  obtain ⟨y, hy, hxy⟩ := List.mem_flatten.1 hx
  obtain ⟨p, -, rfl⟩ := List.mem_map.1 hy
  simp at hxy
  rcases hxy with rfl | rfl <;> rfl
theorem tifl_len (T : List Ti) : ((ti T).flatten).length = T.length * 2 := by rw [flat_len (ti_ok T), ti_len]
theorem tidyKN {P : Program} {f : FuncId} {args : List AV} {H : AH} {T : List Ti} (h : ∀ Q : AV → AH → Prop, (∀ v' H', OwnK 2 H.length H' v' (ti T) → (T = [] → v' = .slice none 0 0 0 1 false) → Ext H H' → Q v' H') → AC P f args H Q) : ∃ v1 H1, (∀ Q : AV → AH → Prop, Q v1 H1 → AC P f args H Q) ∧ OwnK 2 H.length H1 v1 (ti T) ∧ Ext H H1 ∧ v1.one = true := by
  by_cases hne : T = []
  · subst hne
    refine ⟨.slice none 0 0 0 1 false, H, fun Q hq => ?_, OwnK.nil _ _ _, .refl _, rfl⟩
    refine AC_fin (h _ fun v' H' hO hz hE => ?_)
    refine ⟨⟨hE.1, fun r o hr ho => .inl (by rw [← hE.2 r hr]; exact ho)⟩, ?_⟩
    have ht : H'.take H.length = H := by
      obtain ⟨T, rfl⟩ := hE.app
      simp
    obtain rfl := hz rfl
    have : finish H.length H' (.slice none 0 0 0 1 false) = (.slice none 0 0 0 1 false, H) := by
      unfold finish
      rw [if_pos (show belB H.length 4 (.slice none 0 0 0 1 false) = true by simp [belB]), ht]
    rw [this]; exact hq
  · refine ⟨.slice (some H.length) 0 T.length 0 2 false, H ++ [.row ((ti T).flatten) 0 (T.length * 2) false], fun Q hq => ?_, ⟨ti_ok T, .inr ⟨H.length, 0, _, Nat.le_refl _, by rw [ti_len], by simp; rfl⟩⟩, .push _ _, rfl⟩
    refine AC_fin (h _ fun v' H' hO hz hE => ?_)
    refine ⟨⟨hE.1, fun r o hr ho => .inl (by rw [← hE.2 r hr]; exact ho)⟩, ?_⟩
    have ht : H'.take H.length = H := by
      obtain ⟨T, rfl⟩ := hE.app
      simp
    obtain ⟨-, ⟨h0, -⟩ | ⟨r, ver, stale, hr, rfl, hrow⟩⟩ := hO
    · exact absurd (by simpa [ti] using h0) hne
    · have hl := tifl_len T
      rw [ti_len]
      have h1 : belB H.length 4 (.slice (some r) 0 T.length ver 2 false) = false := by simp [belB]; omega
      have h2 : finSlice H.length H' (.slice (some r) 0 T.length ver 2 false) = some (.slice (some H.length) 0 T.length 0 2 false, .row ((ti T).flatten) 0 (T.length * 2) false) := by
        simp only [finSlice, hrow, if_pos hr, Nat.zero_add, List.drop_zero]
        rw [List.take_of_length_le (by omega), if_pos ⟨trivial, by omega, belB_ti _ _⟩]
      have hf : finish H.length H' (.slice (some r) 0 T.length ver 2 false) = (.slice (some H.length) 0 T.length 0 2 false, H ++ [.row ((ti T).flatten) 0 (T.length * 2) false]) := by
        unfold finish
        rw [h1]
        simp only [Bool.false_eq_true, if_false, h2, ht]
      rw [hf]; exact hq
theorem built34u (n : Int) {v : AV} {k : Nat} {H : AH} {l : List (List AV)} (hv : Rs k H v l) : aBuilt Try.prog 34 [(0, .int .i64 n), (1, v)] = some [.int .i64 n, v] := by
  obtain ⟨r, off, ver, sz, full, rfl, -⟩ := hv
  exact built34 n rfl
theorem tidyP_ac (n : Nat) (hn : n ≤ 8) (g : Nat → Nat → Bool) (H : AH) (Q : AV → AH → Prop) (h : ∀ v' H', OwnK 2 H.length H' v' (ti (tabG (fun a b => g a b == true) n n 0)) → Ext H H' → Q (.iface 34 (.agg [.int .i64 (n : Int), v'])) H') : AC Try.prog 78 [.agg (se n g)] H Q := by
  refine L_body 9 Try.func78 rfl rfl ?_
  refine L_reg [1] (fun K hK => ?_)
  simp [AV.isU, acells]
  apply hK; clear hK K
  have hr : (H ++ [AObj.row (se n g) 0 0 false])[H.length]? = some (.row (se n g) 0 0 false) := by simp
  have hE : Ext H (H ++ [AObj.row (se n g) 0 0 false]) := .push _ _
  generalize H ++ [AObj.row (se n g) 0 0 false] = HA at *
  have e0 : ld HA H.length 0 0 = some (.int .i64 n) := by rw [ld_row hr]; rfl
  obtain ⟨v1, H1, hC, hR, hE1, ho⟩ := tidyKN (T := tabG (fun a b => g a b == true) n n 0) (fun Q h => tabs_ac n hn g true HA Q h)
  have hb := built34u (n : Int) hR.rs
  refine L_regX mixed [2] (by kernel_rfl) (fun K hK => ?_)
  simp [okFn_low, e0, se_load hr]
  refine exX_mk hC hE1 ?_
  simp [hb, show notI Try.prog 34 = true by kernel_rfl]
  apply hK; clear hK K
  exact L_ret ⟨.inr rfl, _, rfl, h _ _ (ownK_mono hR (by have := hE.1; omega)) (hE.trans hE1)⟩
theorem ask_ac (fid : Nat) (hf : okFn Try.prog fid = true) (n : Int) (T : List Ti) (v : AV) (hT : T.length ≤ 1000000) (H : AH) (hv : Rs 2 H v (ti T)) (Q : AV → AH → Prop) (h1 : errP n T ≠ 0 → ∀ H', Ext H H' → Q (.tuple [.niliface, .int .i64 (errP n T)]) H')
    (h2 : errP n T = 0 → ∀ H1, Ext H H1 → AC Try.prog fid [.agg (se n (gT T))] H1 fun u H2 => Q (.tuple [u, .int .i64 0]) H2) : AC Try.prog 71 [.agg [.int .i64 n, v], .func (.func fid) [] []] H Q := by
  have hu1 := rs_one hv
  obtain ⟨I99, i99, z99⟩ := zeroT_some zt99s
  refine L_body 19 Try.func71 rfl rfl ?_
  refine L_reg [1, 2] (fun K hK => ?_)
  simp [AV.isU, acells]
  apply hK; clear hK K
  have hE : Ext H (H ++ [AObj.row [.int .i64 n, v] 0 0 false]) := .push _ _
  have r1 : (H ++ [AObj.row [.int .i64 n, v] 0 0 false])[H.length]? = some (.row [.int .i64 n, v] 0 0 false) := by simp
  generalize H ++ [AObj.row [.int .i64 n, v] 0 0 false] = HA at *
  have l1 := ld_two (u := 34) ag34 r1 rfl hu1
  rw [ld34] at l1
  refine L_reg [1, 6, 7] (fun K hK => ?_)
  simp [okFn_low, l1]
  refine seatingOf_ac n T v hT _ (hv.ext hE) _ (fun c H1 hE1 => ?_) (fun c H1 hE1 => ?_)
  · have k1 := st_se (H := H1 ++ [AObj.row (se 0 ff) 0 0 false]) (r := H1.length) (n := 0) (g := ff) (m := 0) (f := ff) (s := 0) (by simp)
    have k2 : Ext H1 ((H1 ++ [AObj.row (se 0 ff) 0 0 false]).set H1.length (.row (se 0 ff) 0 0 false)) := (Ext.push _ _).set _ (Nat.le_refl _)
    simp [i99, z99, k1]
    apply hK; clear hK K
    simp only [List.set_append_right _ _ (Nat.le_refl H1.length), Nat.sub_self, List.set_cons_zero] at k2
    refine L_reg [1, 6, 7, 14] (fun K hK => ?_)
    simp
    apply hK; clear hK K
    refine L_dec (errP n T ≠ 0) (by simp [bne0]) (fun c1 => ?_) (fun c1 => absurd c c1)
    refine L_reg [4, 5] (fun K hK => ?_)
    simp
    apply hK; clear hK K
    exact L_ret ⟨.inr rfl, _, rfl, h1 c _ ((hE.trans hE1).trans k2)⟩
  · have k1 := st_se (H := H1 ++ [AObj.row (se 0 ff) 0 0 false]) (r := H1.length) (n := n) (g := gT T) (m := 0) (f := ff) (s := 0) (by simp)
    have k2 : Ext H1 ((H1 ++ [AObj.row (se 0 ff) 0 0 false]).set H1.length (.row (se n (gT T)) 0 0 false)) := (Ext.push _ _).set _ (Nat.le_refl _)
    have k3 := get_set (H := H1 ++ [AObj.row (se 0 ff) 0 0 false]) (r := H1.length) (o := .row (se 0 ff) 0 0 false) (o' := .row (se n (gT T)) 0 0 false) (by simp)
    simp [i99, z99, k1]
    apply hK; clear hK K
    simp only [List.set_append_right _ _ (Nat.le_refl H1.length), Nat.sub_self, List.set_cons_zero] at k2 k3
    generalize H1 ++ [AObj.row (se n (gT T)) 0 0 false] = H2 at *
    refine L_reg [1, 6, 7, 14] (fun K hK => ?_)
    simp
    apply hK; clear hK K
    refine L_false rfl ?_
    refine L_reg [4, 5] (fun K hK => ?_)
    simp [se_load k3]
    refine ⟨hf, ?_⟩
    refine (h2 c H2 ((hE.trans hE1).trans k2)).mono ?_
    intro u H3 hq
    simp
    apply hK; clear hK K
    exact L_ret ⟨.inr rfl, _, rfl, hq⟩
end Go.Proofs.Ytbimapbcpmeooaa.Cl
namespace Go.Proofs.Ytbimapbcpmeooaa.Cl
open Go Go.Proofs.Ytbimapbcpmeooaa Go.Proofs.Ytbimapbcpmeooaa.AX
set_option maxRecDepth 100000
set_option linter.unusedVariables false
theorem flat_setT (p : Ti) : ∀ (L : List Ti) (i : Nat), i < L.length → (ti (L.set i p)).flatten = (ti L).flatten.take (i * 2) ++ [.int .i64 p.1, .int .i64 p.2] ++ (ti L).flatten.drop (i * 2 + 2)
  | [], i, h => by simp at h
  | q :: L, 0, _ => by simp [ti]
  | q :: L, i + 1, h => by
    have := flat_setT p L i (by simpa using h)
    have e1 : (i + 1) * 2 = i * 2 + 1 + 1 := by omega
    have c1 : (ti (q :: L)).flatten = .int .i64 q.1 :: .int .i64 q.2 :: (ti L).flatten := by simp [ti]
    have c2 : (ti (q :: L.set i p)).flatten = .int .i64 q.1 :: .int .i64 q.2 :: (ti (L.set i p)).flatten := by simp [ti]
    rw [List.set_cons_succ, c2, this, c1, e1]
    simp [List.take_succ_cons, List.drop_succ_cons]
theorem st_pair {H : AH} {r s ver : Nat} {L : List Ti} (hr : H[r]? = some (.row (ti L).flatten ver s false)) {i : Nat} (hi : i < L.length) (x y : Int) : storeV Try.prog 67 H (.ptr r (i * 2) ver) (.agg [.int .i64 x, .int .i64 y]) = some (none, H.set r (.row (ti (L.set i (x, y))).flatten ver (min s (i * 2)) false)) := by
  obtain ⟨I, h1, h2⟩ : ∃ I, Try.prog.info? 67 = some I ∧ I.size = 2 := by
    have := ag67
    unfold aggSz at this
    split at this
    case h_2 => cases this
    rename_i d j hd hj
    split at this
    · exact ⟨j, hj, Option.some.inj this⟩
    · cases this
  have hx := flat_get (ti_ok L) i (by rw [ti_len]; exact hi)
  have ht : (takeKnown 2 ((ti L).flatten.drop (i * 2))).isSome = true := by rw [hx]; rfl
  have hst : stn H r ver [.int .i64 x, .int .i64 y] (i * 2) = some (H.set r (.row ((ti L).flatten.take (i * 2) ++ [.int .i64 x, .int .i64 y] ++ (ti L).flatten.drop (i * 2 + 2)) ver (min s (i * 2)) false)) := by
    simp only [stn, hr]
    rw [if_pos ⟨trivial, trivial, rfl, ht⟩]
    rfl
  have := flat_setT (x, y) L i hi
  simp only at this
  rw [this]
  simp [storeV, h1, h2, AV.isU, acells, hst]
theorem ti_tb {T : List Ti} (h : ∀ p ∈ T, 0 ≤ p.1 ∧ 0 ≤ p.2) : ti T = tb (T.map fun p => (p.1.toNat, p.2.toNat)) := by
  unfold ti tb
  rw [List.map_map]
  apply List.map_congr_left
  intro p hp
  obtain ⟨h1, h2⟩ := h p hp
  simp [Int.toNat_of_nonneg h1, Int.toNat_of_nonneg h2]
theorem CloneI_ex (v : AV) (T : List Ti) (h : ∀ p ∈ T, 0 ≤ p.1 ∧ 0 ≤ p.2) (H : AH) (hT : T.length ≤ 1000000) (hv : Rs 2 H v (ti T)) : ∃ v' H', (∀ Q : AV → AH → Prop, Q v' H' → AC Try.prog 68 [v] H Q) ∧ OwnK 2 H.length H' v' (ti T) ∧ Ext H H' ∧ v'.one = true := by
  rw [ti_tb h] at hv ⊢
  exact CloneT_ex v _ H (by simpa using hT) hv
/-- Four sorters of two tables are not all different. -/
def shB (a b c d : Int) : Bool := a == c || a == d || b == c || b == d
/-- The tables after an exchange, and its error. -/
def crL (T : List Ti) (i j : Nat) (t : Bool) : List Ti := match T[i]?, T[j]? with
  | some (a, b), some (c, d) => if t then (T.set i (a, d)).set j (b, c) else (T.set i (a, c)).set j (b, d)
  | _, _ => []
def crE (n : Int) (T : List Ti) (i j : Int) (t : Bool) : Int :=
  if errP n T ≠ 0 then errP n T else
  if i < 0 ∨ (T.length : Int) ≤ i ∨ j < 0 ∨ (T.length : Int) ≤ j then 2 else
  match T[i.toNat]?, T[j.toNat]? with
  | some (a, b), some (c, d) => if shB a b c d then 5 else errP n (crL T i.toNat j.toNat t)
  | _, _ => 2
theorem ta0 : aAssert Try.prog .niliface 34 true = some (.tuple [zeroPlan, .bool false]) := by kernel_rfl
theorem ta1 (n : Int) (u : AV) : aAssert Try.prog (.iface 34 (.agg [.int .i64 n, u])) 34 true = some (.tuple [.agg [.int .i64 n, u], .bool true]) := by kernel_rfl
end Go.Proofs.Ytbimapbcpmeooaa.Cl
