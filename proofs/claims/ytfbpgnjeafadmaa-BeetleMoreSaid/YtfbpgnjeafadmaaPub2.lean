/- Outline and Idle; lists that are the same. -/
import Derived.Test.YtfbpgnjeafadmaaPub
namespace Go.Proofs.Ytfbpgnjeafadmaa.Fl
open Go Go.Proofs.Ytfbpgnjeafadmaa Go.Proofs.Ytfbpgnjeafadmaa.AX
set_option maxRecDepth 100000

theorem colS_mem {n : Nat} {T : Nat → Bool} : ∀ (l : List Int) (S : Nat → Bool), (colS n T S l).2 = 0 → (∀ b : Nat, (colS n T S l).1 b = true ↔ S b = true ∨ (b : Int) ∈ l) ∧ (∀ x ∈ l, 0 ≤ x ∧ x < n) ∧ (∀ x ∈ l, T x.toNat = false)
  | [], S, _ => ⟨fun b => by simp [colS], by simp, by simp⟩
  | x :: l, S, h => by
    simp only [colS] at h ⊢
    split at h
    · cases h
    · rename_i h1
      split at h
      · cases h
      · rename_i h2
        split at h
        · cases h
        · rename_i h3
          rw [if_neg h1, if_neg h2, if_neg h3]
          obtain ⟨g1, g2, g3⟩ := colS_mem l _ h
          refine ⟨fun b => ?_, fun y hy => ?_, fun y hy => ?_⟩
          · rw [g1 b]
            unfold upd
            simp only [List.mem_cons]
            constructor
            · rintro (h | h)
              · split at h
                · rename_i e; right; left; omega
                · exact .inl h
              · exact .inr (.inr h)
            · rintro (h | h | h)
              · left; split
                · rfl
                · exact h
              · left; rw [if_pos (by omega)]
              · exact .inr h
          · rcases List.mem_cons.1 hy with rfl | hy
            · omega
            · exact g2 y hy
          · rcases List.mem_cons.1 hy with rfl | hy
            · simpa using h3
            · exact g3 y hy
theorem colS_ok {n : Nat} {T : Nat → Bool} : ∀ (l : List Int) (S : Nat → Bool), (∀ x ∈ l, 0 ≤ x ∧ x < n) → l.Nodup → (∀ x ∈ l, S x.toNat = false ∧ T x.toNat = false) → (colS n T S l).2 = 0
  | [], S, _, _, _ => rfl
  | x :: l, S, h1, h2, h3 => by
    have a1 := h1 x (by simp)
    have a2 := h3 x (by simp)
    obtain ⟨b1, b2⟩ := List.nodup_cons.1 h2
    simp only [colS]
    rw [if_neg (by omega), if_neg (by simp [a2.1]), if_neg (by simp [a2.2])]
    refine colS_ok l _ (fun y hy => h1 y (by simp [hy])) b2 fun y hy => ⟨?_, (h3 y (by simp [hy])).2⟩
    unfold upd
    rw [if_neg]
    · exact (h3 y (by simp [hy])).1
    · intro e
      have := h1 y (by simp [hy])
      have e2 : y = x := by omega
      rw [e2] at hy
      exact b1 hy
theorem num_nodup (S : Nat → Bool) : (num S).Nodup := by
  unfold num
  exact List.Pairwise.map _ (fun a b (h : a ≠ b) => by omega) (List.Pairwise.filter _ List.nodup_range)
/-- A store of sets is one. -/
theorem chk_sets {r c n : Nat} {S Z : Nat → Bool} {l o : List Int} (hs : Sd r c) (hn : r * c = n) (hS : ∀ b, S b = true → b < n) (hZ : ∀ b, Z b = true → b < n) (hd : ∀ b, Z b = true → S b = false) (hl : l.Perm (num S)) (ho : o.Perm (num Z)) :
    chkE r c l o = 0 ∧ (sickS r c l).1 = S ∧ (coldS r c l o).1 = Z := by
  have h25 := hs.le
  have hok : okSides (r : Int) c := ⟨⟨by have := hs.r1; omega, by have := hs.r5; omega⟩, by have := hs.c1; omega, by have := hs.c5; omega⟩
  have e1 : (sickS r c l).2 = 0 := by
    unfold sickS
    rw [Int.toNat_natCast, Int.toNat_natCast, hn]
    refine colS_ok l _ (fun x hx => ?_) (hl.symm.nodup (num_nodup S)) (fun x hx => ⟨rfl, rfl⟩)
    obtain ⟨b, -, h2, rfl⟩ := mem_num.1 (hl.mem_iff.1 hx)
    have := hS b h2
    omega
  have e2 : (sickS r c l).1 = S := by
    funext b
    have h := (colS_mem l none' e1).1 b
    have h : (sickS r c l).1 b = true ↔ none' b = true ∨ (b : Int) ∈ l := h
    rw [hl.mem_iff, mem_num] at h
    cases hSb : S b with
    | true => exact h.2 (.inr ⟨b, by have := hS b hSb; omega, hSb, rfl⟩)
    | false =>
      cases h2 : (sickS r c l).1 b with
      | false => rfl
      | true =>
        rcases h.1 h2 with h3 | ⟨x, -, h4, h5⟩
        · simp [none'] at h3
        · have : x = b := by omega
          subst this
          rw [hSb] at h4; cases h4
  have e3 : (coldS r c l o).2 = 0 := by
    unfold coldS
    rw [Int.toNat_natCast, Int.toNat_natCast, hn, e2]
    refine colS_ok o _ (fun x hx => ?_) (ho.symm.nodup (num_nodup Z)) (fun x hx => ⟨rfl, ?_⟩)
    · obtain ⟨b, -, h2, rfl⟩ := mem_num.1 (ho.mem_iff.1 hx)
      have := hZ b h2
      omega
    · obtain ⟨b, -, h2, rfl⟩ := mem_num.1 (ho.mem_iff.1 hx)
      rw [Int.toNat_natCast]
      exact hd b h2
  have e4 : (coldS r c l o).1 = Z := by
    funext b
    have h := (colS_mem o none' e3).1 b
    have h : (coldS r c l o).1 b = true ↔ none' b = true ∨ (b : Int) ∈ o := h
    rw [ho.mem_iff, mem_num] at h
    cases hSb : Z b with
    | true => exact h.2 (.inr ⟨b, by have := hZ b hSb; omega, hSb, rfl⟩)
    | false =>
      cases h2 : (coldS r c l o).1 b with
      | false => rfl
      | true =>
        rcases h.1 h2 with h3 | ⟨x, -, h4, h5⟩
        · simp [none'] at h3
        · have : x = b := by omega
          subst this
          rw [hSb] at h4; cases h4
  exact ⟨(chk_ok hok e1 e3).1, e2, e4⟩
/-- Two lists compared. -/
theorem same_q (u v : AV) (a b : List Int) (H : AH) (Q : AV → AH → Prop) (hu : Ls H u a) (hv : Ls H v b) (ha : a.length ≤ 1000000) (_hb : b.length ≤ 1000000) (h : Q (.bool (decide (a = b))) H) : AC Try.prog 24 [u, v] H Q := by
  refine L_body 26 Try.func24 rfl rfl ?_
  have l1 := ls_len hu
  have l2 := ls_len hv
  refine L_reg [0, 1] (fun K hK => ?_)
  simp
  apply hK; clear hK K
  refine L_reg [0, 1, 10] (fun K hK => ?_)
  simp [l1, l2]
  apply hK; clear hK K
  by_cases hl : a.length = b.length
  case neg =>
    have : ¬ a = b := fun e => hl (by rw [e])
    rw [decide_eq_false this] at h
    refine L_true (by simp; omega) ?_
    refine L_reg [4] (fun K hK => ?_)
    simp
    apply hK; clear hK K
    exact L_ret ⟨.inr rfl, _, rfl, h⟩
  refine L_false (by simp; omega) ?_
  refine L_reg [0, 1, 5] (fun K hK => ?_)
  simp
  apply hK; clear hK K
  refine L_block (L_loopV [5] (fun q vs H' => ∃ i : Nat, q = a.length - i ∧ i ≤ a.length ∧ vs = [.int .i64 i] ∧ H = H' ∧ a.take i = b.take i) _ [.int .i64 (0 : Nat)] rfl ⟨0, rfl, by omega, rfl, rfl, rfl⟩ ?_)
  rintro q _ _ ⟨i, rfl, hi, rfl, rfl, he⟩
  refine L_reg [0, 1, 5, 14] (fun K hK => ?_)
  simp [l1]
  apply hK; clear hK K
  refine L_dec (i < a.length) (by simp) (fun hlt => ?_) (fun hge => L_exit ?_)
  · refine L_block ?_
    obtain ⟨r1, p1, v1, x1, y1⟩ := ls_ix hu hlt
    obtain ⟨r2, p2, v2, x2, y2⟩ := ls_ix hv (i := i) (by omega)
    refine L_regT mixed [0, 1, 5, 25] (by kernel_rfl) (fun K hK => ?_)
    simp [x1, x2, y1, y2]
    apply hK; clear hK K
    by_cases hg : g a i = g b i
    · refine L_false (by simp [hg]) ?_
      refine L_reg [0, 1, 5] (fun K hK => ?_)
      simp [wrap_i64 (a := (i : Int) + 1) (by omega)]
      apply hK; clear hK K
      refine ⟨a.length - (i + 1), [.int .i64 (i + 1 : Nat)], by omega, by simp, i + 1, rfl, by omega, rfl, rfl, ?_⟩
      rw [List.take_add_one, List.take_add_one, he, List.getElem?_eq_getElem hlt, List.getElem?_eq_getElem (show i < b.length by omega), ← g_lt hlt, ← g_lt (show i < b.length by omega), hg]
    · have : ¬ a = b := fun e => hg (by rw [e])
      rw [decide_eq_false this] at h
      refine L_true (by simp [hg]) ?_
      refine L_reg [4] (fun K hK => ?_)
      simp
      apply hK; clear hK K
      exact L_ret ⟨.inr rfl, _, rfl, h⟩
  · have e : i = a.length := by omega
    rw [e, List.take_length, hl, List.take_length] at he
    rw [decide_eq_true he] at h
    refine L_reg [4] (fun K hK => ?_)
    simp
    apply hK; clear hK K
    exact L_ret ⟨.inr rfl, _, rfl, h⟩
theorem Outline_ac (m k : Int) (u w : AV) (l o : List Int) (H : AH) (Q : AV → AH → Prop) (hu : Ls H u l) (hw : Ls H w o) (hl : l.length ≤ 1000000) (ho : o.length ≤ 1000000)
    (he : chkE m k l o ≠ 0 → ∀ H', Ext H H' → Q (.tuple [.int .i64 0, .int .i64 0, .int .i64 (chkE m k l o)]) H')
    (hq : chkE m k l o = 0 → ∀ H', Ext H H' → Q (.tuple [.int .i64 (ol m.toNat k.toNat (sickS m k l).1), .int .i64 (ol m.toNat k.toNat (sp m.toNat k.toNat 2 (opn (m.toNat * k.toNat) (coldS m k l o).1) (sickS m k l).1)), .int .i64 0]) H') :
    AC Try.prog 22 [.agg [.int .i64 m, .int .i64 k, u, w]] H Q := by
  refine L_body 24 Try.func22 rfl rfl ?_
  obtain ⟨J, hJ, hy⟩ := zeroT_some zt81'
  have hS0 := sickS_sup m k l
  refine L_reg [1] (fun K hK => ?_)
  simp [AV.isU, acells]
  apply hK; clear hK K
  have b2 : (H ++ [AObj.row [.int .i64 m, .int .i64 k, u, w] 0 0 false])[H.length]? = some (.row [.int .i64 m, .int .i64 k, u, w] 0 0 false) := by simp
  have hL : (H ++ [AObj.row [.int .i64 m, .int .i64 k, u, w] 0 0 false]).length = H.length + 1 := by simp
  have hE : Ext H (H ++ [AObj.row [.int .i64 m, .int .i64 k, u, w] 0 0 false]) := .push _ _
  generalize H ++ [AObj.row [.int .i64 m, .int .i64 k, u, w] 0 0 false] = H1 at b2 hL hE ⊢
  have a2 := ldn4 b2 (ls_known hu) (ls_known hw)
  refine L_reg [4, 5] (fun K hK => ?_)
  simp [okFn_low, a2]
  refine checked_q m k u w l o _ _ (hu.ext hE) (hw.ext hE) hl ho ?_
  simp [hJ, hy, new81F]
  apply hK; clear hK K
  have b6 : (H1 ++ [AObj.row (chkF m k l o) 0 0 false])[H.length + 1]? = some (.row (chkF m k l o) 0 0 false) := by rw [← hL]; simp
  have hE2 : Ext H1 (H1 ++ [AObj.row (chkF m k l o) 0 0 false]) := .push _ _
  rw [hL]
  replace hE := hE.trans hE2
  clear a2 hE2 b2
  generalize H1 ++ [AObj.row (chkF m k l o) 0 0 false] = H2 at b6 hE ⊢
  refine L_reg [4, 5, 12] (fun K hK => ?_)
  simp
  apply hK; clear hK K
  by_cases hc0 : chkE m k l o = 0
  case neg =>
    refine L_true (by simp [hc0]) ?_
    refine L_reg [2, 3, 4] (fun K hK => ?_)
    simp
    apply hK; clear hK K
    exact L_ret ⟨.inr rfl, _, rfl, he hc0 _ hE⟩
  refine L_false (by simp [hc0]) ?_
  rw [chk_F hc0] at b6
  have hs := (chk_sides hc0).sd
  replace hq := hq hc0
  clear he hc0
  generalize (sickS m k l).1 = S at *
  generalize (coldS m k l o).1 = Z at *
  generalize m.toNat = r at *
  generalize k.toNat = c at *
  have a6 := ldn_F b6
  have a0 := ldn_F0 b6
  have a1 := ldn_F1 b6
  refine L_regZ mixed [] [0, 0, 0, 0, 0, 0, 1, 1, 0, 0] [] [2, 3, 4] (by kernel_rfl) (fun K hK => ?_)
  simp [okFn_low, a0, a1]
  refine exX_mk (fun Q hQ => outline_q hs _ hS0 _ Q hQ) (.refl _) ?_
  simp [okFn_low, a0, a6]
  refine exX_mk (fun Q hQ => spread_q hs rfl _ _ hS0 _ Q hQ) (.refl _) ?_
  simp [okFn_low]
  refine exX_mk (fun Q hQ => outline_q hs _ (sp_sup hS0) _ Q hQ) (.refl _) ?_
  simp
  apply hK; clear hK K
  exact L_ret ⟨.inr rfl, _, rfl, hq _ hE⟩
def idleB (r c n : Nat) (S Z : Nat → Bool) (b : Nat) : Bool := (List.range 25).all fun i => sp r c 2 (opn n Z) (upd S b false) i == sp r c 2 (opn n Z) S i
def idT (r c n : Nat) (S Z : Nat → Bool) (l : List Int) (j b : Nat) : Bool := decide ((b : Int) ∈ l.take j) && idleB r c n S Z b
theorem Idle_ac (m k : Int) (u w : AV) (l o : List Int) (H : AH) (Q : AV → AH → Prop) (hu : Ls H u l) (hw : Ls H w o) (hl : l.length ≤ 1000000) (ho : o.length ≤ 1000000)
    (he : chkE m k l o ≠ 0 → ∀ H', Ext H H' → Q (.tuple [.slice none 0 0 0 1 false, .int .i64 (chkE m k l o)]) H')
    (hq : chkE m k l o = 0 → ∀ v' H', OwnN H.length H' v' (num fun b => (sickS m k l).1 b && idleB m.toNat k.toNat (m.toNat * k.toNat) (sickS m k l).1 (coldS m k l o).1 b) → Ext H H' → Q (.tuple [v', .int .i64 0]) H') :
    AC Try.prog 29 [.agg [.int .i64 m, .int .i64 k, u, w]] H Q := by
  refine L_body 32 Try.func29 rfl rfl ?_
  obtain ⟨J, hJ, hy⟩ := zeroT_some zt81'
  obtain ⟨I, hI, hz⟩ := zeroT_some zt79'
  have hS0 := sickS_sup m k l
  refine L_reg [1] (fun K hK => ?_)
  simp [AV.isU, acells]
  apply hK; clear hK K
  have b2 : (H ++ [AObj.row [.int .i64 m, .int .i64 k, u, w] 0 0 false])[H.length]? = some (.row [.int .i64 m, .int .i64 k, u, w] 0 0 false) := by simp
  have hL : (H ++ [AObj.row [.int .i64 m, .int .i64 k, u, w] 0 0 false]).length = H.length + 1 := by simp
  have hE : Ext H (H ++ [AObj.row [.int .i64 m, .int .i64 k, u, w] 0 0 false]) := .push _ _
  generalize H ++ [AObj.row [.int .i64 m, .int .i64 k, u, w] 0 0 false] = H1 at b2 hL hE ⊢
  have a2 := ldn4 b2 (ls_known hu) (ls_known hw)
  refine L_reg [1, 4, 5] (fun K hK => ?_)
  simp [okFn_low, a2]
  refine checked_q m k u w l o _ _ (hu.ext hE) (hw.ext hE) hl ho ?_
  simp [hJ, hy, new81F]
  apply hK; clear hK K
  have b6 : (H1 ++ [AObj.row (chkF m k l o) 0 0 false])[H.length + 1]? = some (.row (chkF m k l o) 0 0 false) := by rw [← hL]; simp
  have hE2 : Ext H1 (H1 ++ [AObj.row (chkF m k l o) 0 0 false]) := .push _ _
  have hL2 : (H1 ++ [AObj.row (chkF m k l o) 0 0 false]).length = H.length + 2 := by simp [hL]
  rw [hL]
  replace hE := hE.trans hE2
  replace b2 := hE2.row b2
  clear a2 hE2
  generalize H1 ++ [AObj.row (chkF m k l o) 0 0 false] = H2 at b2 b6 hE hL2 ⊢
  refine L_reg [1, 4, 5, 15] (fun K hK => ?_)
  simp
  apply hK; clear hK K
  by_cases hc0 : chkE m k l o = 0
  case neg =>
    refine L_true (by simp [hc0]) ?_
    refine L_reg [2, 3] (fun K hK => ?_)
    simp
    apply hK; clear hK K
    exact L_ret ⟨.inr rfl, _, rfl, he hc0 _ hE⟩
  refine L_false (by simp [hc0]) ?_
  have hmem := colS_mem (n := m.toNat * k.toNat) (T := none') l none' (by
    have hok := chk_sides hc0
    unfold chkE at hc0
    rw [if_pos hok] at hc0
    split at hc0
    · rename_i h; exact absurd hc0 h
    · rename_i h; simpa [sickS] using h)
  have hmem1 : ∀ b : Nat, (sickS m k l).1 b = true ↔ (b : Int) ∈ l := fun b => by
    have := hmem.1 b
    simpa [sickS, none'] using this
  have hmem2 := hmem.2.1
  clear hmem
  rw [chk_F hc0] at b6
  have hs := (chk_sides hc0).sd
  replace hq := hq hc0
  clear he hc0
  generalize (sickS m k l).1 = S at *
  generalize (coldS m k l o).1 = Z at *
  have hue := hu.ext hE
  generalize hr : m.toNat = r at *
  generalize hc : k.toNat = c at *
  obtain ⟨n, hn⟩ : ∃ n, r * c = n := ⟨_, rfl⟩
  have h25 := hs.le
  rw [hn] at hq h25 hS0 hmem2
  refine L_reg [1, 4, 6] (fun K hK => ?_)
  simp [hI, hz]
  apply hK; clear hK K
  have b7 : (H2 ++ [AObj.row (bA none') 0 0 false])[H.length + 2]? = some (.row (bA (idT r c n S Z l 0)) 0 0 false) := by
    have : bA (idT r c n S Z l 0) = bA none' := bA_ext fun b _ => by simp [idT, none']
    rw [this, ← hL2]; simp
  have hE2 : Ext H2 (H2 ++ [AObj.row (bA none') 0 0 false]) := .push _ _
  rw [hL2]
  replace b2 := hE2.row b2
  replace b6 := hE2.row b6
  replace hE := hE.trans hE2
  have hv := hue.ext hE2
  clear hE2 hue
  generalize H2 ++ [AObj.row (bA none') 0 0 false] = H3 at b2 b6 b7 hE hv ⊢
  have a2 : ld H3 H.length 2 0 = some u := by
    rw [ld_row b2]
    obtain ⟨a, b, c, d, e, rfl, -⟩ := hu
    rfl
  refine L_reg [4, 6, 18, 19, 20] (fun K hK => ?_)
  simp [a2, ls_len hv]
  apply hK; clear hK K
  refine L_block (L_loopV [20] (fun q vs H' => ∃ (j s : Nat), q = l.length - j ∧ j ≤ l.length ∧ vs = [.int .i64 j] ∧ Ext H H' ∧ H'[H.length + 1]? = some (.row (fl r c S Z) 0 0 false) ∧ H'[H.length + 2]? = some (.row (bA (idT r c n S Z l j)) 0 s false)) _ [.int .i64 (0 : Nat)] rfl ⟨0, 0, rfl, by omega, rfl, hE, b6, b7⟩ ?_)
  clear b2 b6 b7 hE hv a2 H3
  rintro q _ H3 ⟨j, s, rfl, hj, rfl, hE, b6, b7⟩
  have hv := hu.ext hE
  refine L_reg [4, 6, 18, 19, 20, 21] (fun K hK => ?_)
  simp
  apply hK; clear hK K
  refine L_dec (j < l.length) (by simp) (fun hlt => ?_) (fun hge => L_exit ?_)
  · refine L_block ?_
    obtain ⟨rz, pz, vz, hix, hldz⟩ := ls_ix hv hlt
    obtain ⟨x1, x2⟩ := hmem2 (g l j) (by rw [g_lt hlt]; simp)
    obtain ⟨b, hb⟩ : ∃ b : Nat, g l j = b := ⟨(g l j).toNat, by omega⟩
    rw [hb] at hldz x1 x2
    have hbn : b < n := by omega
    have hb25 : b < 25 := by omega
    have hbi : (b : Int) < 25 := by omega
    have a6 := ldn_F b6
    have hst := st_b (v := idleB r c n S Z b) b7 hb25
    have hup : upd (idT r c n S Z l j) b (idleB r c n S Z b) = idT r c n S Z l (j + 1) := by
      funext x
      unfold upd idT
      rw [List.take_add_one, List.getElem?_eq_getElem hlt, ← g_lt hlt, hb]
      by_cases hx : x = b
      · subst hx; simp
      · rw [if_neg hx]
        have : decide ((x : Int) ∈ List.take j l ++ (some (b : Int)).toList) = decide ((x : Int) ∈ List.take j l) := decide_eq_decide.2 (by simp; omega)
        rw [this]
    rw [hup] at hst
    have hst : storeV Try.prog 4 H3 (.ptr (H.length + 2) b 0) (.bool ((List.range 25).all fun i => sp r c 2 (opn n Z) (upd S b false) i == sp r c 2 (opn n Z) S i)) = some (none, H3.set (H.length + 2) (.row (bA (idT r c n S Z l (j + 1))) 0 (min s b) false)) := hst
    refine L_reg [4, 6, 8, 18, 19, 20] (fun K hK => ?_)
    simp [hix, hldz]
    apply hK; clear hK K
    refine L_reg [4, 6, 18, 19, 20] (fun K hK => ?_)
    simp [okFn_low, a6]
    refine idle_q hs hn S Z hS0 b hbn _ _ ?_
    simp [hbi, hst]
    apply hK; clear hK K
    refine L_reg [4, 6, 18, 19, 20] (fun K hK => ?_)
    simp [wrap_i64 (a := (j : Int) + 1) (by omega)]
    apply hK; clear hK K
    refine ⟨l.length - (j + 1), [.int .i64 (j + 1 : Nat)], by omega, by simp, j + 1, min s b, rfl, by omega, rfl, hE.set _ (by omega), ?_, get_set b7⟩
    rw [List.getElem?_set_ne (by omega)]; exact b6
  · have e : j = l.length := by omega
    rw [e] at b7
    have e2 : num (idT r c n S Z l l.length) = num fun b => S b && idleB r c n S Z b := by
      unfold num
      congr 1
      refine List.filter_congr fun b _ => ?_
      unfold idT
      rw [List.take_length]
      congr 1
      have := hmem1 b
      cases hSb : S b with
      | true => exact decide_eq_true (this.1 hSb)
      | false => exact decide_eq_false fun h => by rw [this.2 h] at hSb; cases hSb
    have a7 := ldn_b b7
    refine L_reg [2, 3] (fun K hK => ?_)
    simp [okFn_low, a7]
    refine list_ac _ _ _ (fun v H4 hN hE4 => ?_)
    rw [e2] at hN
    simp
    apply hK; clear hK K
    refine L_ret ⟨.inr rfl, _, rfl, hq v H4 ⟨hN.1, ownF_less hN.2 (by have := hE.1; omega)⟩ (hE.trans hE4)⟩
end Go.Proofs.Ytfbpgnjeafadmaa.Fl
