/- Any so many may open: the walk. -/
import Derived.Test.YtcidcihpkdoejaaThree
import Derived.Test.YtcidcihpkdoejaaWorks
namespace Go.Proofs.Ytcidcihpkdoejaa.Bo
open Go Go.Proofs.Ytcidcihpkdoejaa Go.Proofs.Ytcidcihpkdoejaa.AX
set_option maxRecDepth 100000
theorem sameT_q (u v : AV) (l : List Nat) (hlen : l.length ≤ 1000000) (H : AH) (hu : Ls H u (il l)) (hv : Ls H v (il l)) (Q : AV → AH → Prop) (h : Q (.bool true) H) : AC Try.prog 22 [u, v] H Q :=
  sameN_q u v l l hlen hlen H hu hv Q (by simpa using h)
/-- Groups below a number that are so. -/
def belS (g : Nat) (p : Nat → Bool) : List Nat := (List.range g).filter p
theorem belS_next (g : Nat) (p : Nat → Bool) : il (belS (g + 1) p) = il (belS g p) ++ (if p g then [(g : Int)] else []) := by
  unfold belS
  rw [rng_next, il_app]
  cases p g <;> simp [il]
def pO (k g : Nat) : Bool := pop g == k
def pB (k g : Nat) : Bool := decide (0 < k) && pop g == k - 1
def pL (n k g : Nat) : Bool := decide (0 < k) && pop g == n - k + 1
theorem belS_len (g : Nat) (p : Nat → Bool) : (belS g p).length ≤ g := filter_len p
theorem bel_O (n k : Nat) : belS (2 ^ n) (pO k) = sizeS n k := rfl
theorem bel_B (n k : Nat) : belS (2 ^ n) (pB k) = if k = 0 then [] else sizeS n (k - 1) := by
  unfold belS pB sizeS
  by_cases h : k = 0
  · subst h; simp
  · rw [if_neg h]
    apply List.filter_congr
    intro g _
    rw [decide_eq_true (show 0 < k by omega), Bool.true_and]
theorem bel_L (n k : Nat) : belS (2 ^ n) (pL n k) = if k = 0 then [] else sizeS n (n - k + 1) := by
  unfold belS pL sizeS
  by_cases h : k = 0
  · subst h; simp
  · rw [if_neg h]
    apply List.filter_congr
    intro g _
    rw [decide_eq_true (show 0 < k by omega), Bool.true_and]
theorem wrap_u64s (g : Nat) (hg : g < 64) : IntKind.u64.wrap (g : Int) = g := by
  have h1 : ∀ g : Nat, g < 64 → IntKind.u64.wrap (g : Int) = g := by decide
  exact h1 g hg
set_option maxHeartbeats 2000000 in
theorem counted_ac (x y : Nat) (hx : x < 256) (hy : y < 256) (H : AH) : AC Try.prog 9 [.int .u8 x, .int .u8 y] H fun v _ => v = .bool true := by
  refine L_body 185 Try.func9 rfl rfl ?_
  have q1 : (x : Int).tmod 6 = ((x % 6 : Nat) : Int) := rem_nat x 6
  have lx := Nat.mod_lt x (show 0 < 6 by decide)
  obtain ⟨z, hz⟩ : ∃ z, x % 6 = z := ⟨_, rfl⟩
  rw [hz] at q1 lx
  have w1 : IntKind.i64.wrap (x : Int) = x := wrap_i64 (by omega)
  have wz : IntKind.i64.wrap (z : Int) = z := wrap_i64 (by omega)
  have wn : IntKind.i64.wrap (1 + (z : Int)) = ((z + 1 : Nat) : Int) := by rw [wrap_i64 (by omega)]; omega
  refine L_reg [0, 1] (fun K hK => ?_)
  simp
  apply hK; clear hK K
  refine L_reg [1, 5] (fun K hK => ?_)
  simp [w1, q1, wn]
  apply hK; clear hK K
  obtain ⟨n, hn⟩ : ∃ n, z + 1 = n := ⟨_, rfl⟩
  have e1 : (z : Int) + 1 = (n : Int) := by omega
  try rw [e1]
  have hn1 : 1 ≤ n := by omega
  have hn6 : n ≤ 6 := by omega
  have q2 := rem_nat y (n + 1)
  have ly := Nat.mod_lt y (show 0 < n + 1 by omega)
  obtain ⟨k, hk⟩ : ∃ k, y % (n + 1) = k := ⟨_, rfl⟩
  rw [hk] at q2 ly
  have hkn : k ≤ n := by omega
  have q2' : (y : Int).tmod ((n : Int) + 1) = (k : Int) := by rw [← q2]; simp
  have w2 : IntKind.i64.wrap (y : Int) = y := wrap_i64 (by omega)
  have wk : IntKind.i64.wrap (k : Int) = k := wrap_i64 (by omega)
  have wn1 : IntKind.i64.wrap ((n : Int) + 1) = (n : Int) + 1 := wrap_i64 (by omega)
  have hn0 : (n : Int) + 1 ≠ 0 := by omega
  clear hz hn e1 q1 wz wn lx z hk
  refine L_reg [5, 6] (fun K hK => ?_)
  simp [w2, wn1, q2', hn0]
  apply hK; clear hK K
  obtain ⟨I, hI, hz⟩ := zeroT_some zt24
  obtain ⟨J, hJ, hzJ⟩ := zeroT_some zt40
  have h64 := pw64 hn6
  have hp := pw n
  obtain ⟨-, -, -, hs20, -⟩ := any_is hn1 hn6 hkn
  have hrO : OkR n (sizeS n k) := ⟨hn1, hn6, by omega, size_ok n k⟩
  refine L_reg [5, 6, 7, 8] (fun K hK => ?_)
  simp [okFn_low]
  refine Any_ok hn1 hn6 hkn _ _ (fun r H1 hO hE1 => ?_)
  have hr := ownF_ls hO
  have hst := st2 (t := 24) ag24 (n := n) (s := r) (k := 0) (n' := 0) (s' := nilS) (p := H1.length) (H := H1 ++ [AObj.row [.int .i64 0, nilS] 0 0 false]) (by simp) (by intro h; cases h) (ls_one hr)
  simp [hI, hz, hst, cA]
  apply hK; clear hK K
  have g1 : (H1 ++ [AObj.row [.int .i64 n, r] 0 0 false])[H1.length]? = some (.row [.int .i64 n, r] 0 0 false) := by simp
  have hr := hr.ext (H1 := H1 ++ [AObj.row [.int .i64 n, r] 0 0 false]) (.push _ _)
  generalize H1 ++ [AObj.row [.int .i64 n, r] 0 0 false] = H2 at g1 hr ⊢
  generalize H1.length = p at g1 ⊢
  clear hO hE1 hst
  have hrk := ls_known hr
  have c0 := ld_c0 g1
  refine L_reg [5, 6, 7, 44] (fun K hK => ?_)
  simp [c0, pickV]
  apply hK; clear hK K
  refine L_false rfl ?_
  refine L_reg [5, 6, 7, 9, 10, 11] (fun K hK => ?_)
  simp
  apply hK; clear hK K
  have hshl : ∀ tt ll, binV Try.prog .shl tt ll (.int .i64 1) (.int .i64 (n : Int)) = some (.int .i64 ((2 ^ n : Nat) : Int)) := fun _ _ => n_shl n hn6
  have eO := bel_O n k
  have eB := bel_B n k
  have eL := bel_L n k
  obtain ⟨N, hN⟩ : ∃ N, 2 ^ n = N := ⟨_, rfl⟩
  rw [hN] at hshl h64 hp eO eB eL
  refine L_reg [5, 6, 7, 9, 10, 11, 46, 47] (fun K hK => ?_)
  simp [hshl]
  apply hK; clear hK K
  refine L_block (L_loopV [9, 10, 11, 47] (fun q vs H' => ∃ (g : Nat) (a b c : AV), q = N - g ∧ g ≤ N ∧ vs = [a, b, c, .int .i64 g] ∧ Ext H2 H' ∧ L3 H2.length H' a b c (il (belS g (pO k))) (il (belS g (pL n k))) (il (belS g (pB k)))) _ [nilS, nilS, nilS, .int .i64 (0 : Nat)] rfl ⟨0, _, _, _, rfl, by omega, rfl, .refl _, L3.nil _ _⟩ ?_)
  rintro q _ H3 ⟨g, a, b, c, rfl, hg, rfl, hE3, h3⟩
  refine L_reg [5, 6, 7, 9, 10, 11, 46, 47, 48] (fun K hK => ?_)
  simp
  apply hK; clear hK K
  refine L_dec (g < N) (by simp) (fun hlt => ?_) (fun hge => L_exit ?_)
  · refine L_block ?_
    have hwu := wrap_u64s g (by omega)
    have lO := belS_len g (pO k)
    have lB := belS_len g (pB k)
    have lL := belS_len g (pL n k)
    have nO := belS_next g (pO k)
    have nB := belS_next g (pB k)
    have nL := belS_next g (pL n k)
    refine L_reg [5, 6, 7, 9, 10, 11, 12, 46, 47] (fun K hK => ?_)
    simp
    apply hK; clear hK K
    refine L_reg [5, 6, 7, 9, 10, 11, 12, 46, 47, 52] (fun K hK => ?_)
    simp [okFn_low, hwu]
    refine ones_q g (by omega) _ _ ?_
    simp
    apply hK; clear hK K
    refine L_blockK [5, 6, 7, 9, 10, 11, 12, 46, 47] (fun e' H' => ∃ a' c', e' = [(5, .int .i64 n), (6, .int .i64 k), (7, .ptr p 0 0), (9, a'), (10, b), (11, c'), (12, .int .i64 g), (46, .int .i64 N), (47, .int .i64 g)] ∧ Ext H2 H' ∧ L3 H2.length H' a' b c' (il (belS (g + 1) (pO k))) (il (belS g (pL n k))) (il (belS (g + 1) (pB k)))) ?_ ?_
    · refine L_reg [5, 6, 7, 9, 10, 11, 12, 46, 47, 52, 53] (fun K hK => ?_)
      simp
      apply hK; clear hK K
      by_cases hO : pop g = k
      · have tO : pO k g = true := by simp [pO, hO]
        have tB : pB k g = false := by
          unfold pB
          by_cases h0 : 0 < k
          · simp [h0]; omega
          · simp [h0]
        obtain ⟨a', H4, happ, h4, hE4⟩ := h3.app hE3 g 1 (by rw [il_len]; omega)
        refine L_true (by simp [hO]) ?_
        refine L_reg [5, 6, 7, 9, 10, 11, 12, 46, 47] (fun K hK => ?_)
        simp [happ]
        apply hK; clear hK K
        refine ⟨a', c, by simp, hE4, ?_⟩
        rw [nO, nB, tO, tB]
        simpa using h4
      · have tO : pO k g = false := by simp [pO, hO]
        refine L_false (by simp; omega) ?_
        refine L_reg [5, 6, 7, 9, 10, 11, 12, 46, 47, 60] (fun K hK => ?_)
        simp [wrap_i64 (a := (k : Int) - 1) (by omega)]
        apply hK; clear hK K
        by_cases hB : 0 < k ∧ pop g = k - 1
        · have tB : pB k g = true := by simp [pB, hB]
          obtain ⟨c', H4, happ, h4, hE4⟩ := h3.turn.app hE3 g 1 (by rw [il_len]; omega)
          refine L_true (by simp; omega) ?_
          refine L_reg [5, 6, 7, 9, 10, 11, 12, 46, 47] (fun K hK => ?_)
          simp [happ]
          apply hK; clear hK K
          refine ⟨a, c', by simp, hE4, ?_⟩
          rw [nO, nB, tO, tB]
          simpa using h4.turn
        · have tB : pB k g = false := by
            unfold pB
            by_cases h0 : 0 < k
            · simp [h0]; omega
            · simp [h0]
          refine L_false (by simp; omega) ?_
          refine ⟨a, c, by simp, hE3, ?_⟩
          rw [nO, nB, tO, tB]
          simpa using h3
    rintro _ H4 ⟨a', c', rfl, hE4, h4⟩
    refine L_reg [5, 6, 7, 9, 10, 11, 12, 46, 47, 79] (fun K hK => ?_)
    suffices hk : K [(5, .int .i64 n), (6, .int .i64 k), (7, .ptr p 0 0), (9, a'), (10, b), (11, c'), (12, .int .i64 g), (46, .int .i64 N), (47, .int .i64 g), (79, .bool (pL n k g))] H4 by
      by_cases h0 : 0 < k
      · have hcmp : (((pop g : Nat) : Int) == (n : Int) - k + 1) = pL n k g := by
          unfold pL
          rw [decide_eq_true h0, Bool.true_and, Bool.eq_iff_iff, beq_iff_eq, beq_iff_eq]; omega
        simp [h0, okFn_low, hwu]
        refine ones_q g (by omega) _ _ ?_
        simp [wrap_i64 (a := (n : Int) - k) (by omega), wrap_i64 (a := (n : Int) - k + 1) (by omega), hcmp, pickV]
        exact hk
      · have e0 : pL n k g = false := by simp [pL, h0]
        rw [e0] at hk
        simp [h0, pickV]
        exact hk
    apply hK; clear hK K
    cases tL : pL n k g with
    | true =>
      obtain ⟨b', H5, happ, h5, hE5⟩ := h4.swap.app hE4 g 1 (by rw [il_len]; omega)
      refine L_true (by simp) ?_
      refine L_reg [5, 6, 7, 9, 10, 11, 46, 47] (fun K hK => ?_)
      simp [happ]
      apply hK; clear hK K
      refine L_reg [5, 6, 7, 9, 10, 11, 46, 47] (fun K hK => ?_)
      simp [wrap_i64 (a := (g : Int) + 1) (by omega)]
      apply hK; clear hK K
      refine ⟨N - (g + 1), [a', b', c', .int .i64 (g + 1 : Nat)], by omega, by simp, g + 1, a', b', c', rfl, by omega, rfl, hE5, ?_⟩
      rw [nL, tL]
      simpa using h5.swap
    | false =>
      refine L_false (by simp) ?_
      refine L_reg [5, 6, 7, 9, 10, 11, 46, 47] (fun K hK => ?_)
      simp [wrap_i64 (a := (g : Int) + 1) (by omega)]
      apply hK; clear hK K
      refine ⟨N - (g + 1), [a', b, c', .int .i64 (g + 1 : Nat)], by omega, by simp, g + 1, a', b, c', rfl, by omega, rfl, hE4, ?_⟩
      rw [nL, tL]
      simpa using h4
  · have e : N = g := by omega
    subst e
    rw [eO, eL, eB, ← any_locks hn1 hn6 hkn, ← any_most hn1 hn6 hkn] at h3
    have l1 := any_least hn1 hn6 hkn
    have ky := fun x (hx : x < n) => any_keys hn1 hn6 hkn hx
    rw [hN] at l1 h3
    have lmx := most_len N (within (sizeS n k))
    have lkx : (locksS n (sizeS n k)).length ≤ N := by rw [← hN]; exact least_len _ _
    have lko := locks_ok n (sizeS n k)
    have hrL : OkR n (locksS n (sizeS n k)) := ⟨hn1, hn6, by omega, lko⟩
    clear eO eL eB
    generalize sizeS n k = O at *
    obtain ⟨L, hL⟩ : ∃ L, locksS n O = L := ⟨_, rfl⟩
    rw [hL] at h3 ky lkx lko hrL
    obtain ⟨B, hB⟩ : ∃ B, mostS N (within O) = B := ⟨_, rfl⟩
    rw [hB] at h3 lmx
    have la := ownF_ls h3.oa
    have lb := ownF_ls h3.ob
    have lc := ownF_ls h3.oc
    have lr := hr.ext hE3
    have g3 : H3[p]? = some (.row [.int .i64 n, r] 0 0 false) := by rw [hE3.2 _ (List.getElem?_eq_some_iff.1 g1).1]; exact g1
    clear h3 hE3 g1 hr c0
    have r3 := ldn_c g3 hrk
    refine L_reg [5, 6, 7, 8, 9, 10, 11, 13] (fun K hK => ?_)
    simp [okFn_low, r3]
    refine Make_ok hrO r _ lr _ (fun m H4 hO4 hE4 => ?_)
    rw [hL] at hO4
    have lm := ownF_ls hO4
    have hst := st2 (t := 40) ag40 (n := n) (s := m) (k := 0) (n' := 0) (s' := nilS) (p := H4.length) (H := H4 ++ [AObj.row [.int .i64 0, nilS] 0 0 false]) (by simp) (by intro h; cases h) (ls_one lm)
    simp [hJ, hzJ, hst, cA]
    apply hK; clear hK K
    have g5 : (H4 ++ [AObj.row [.int .i64 n, m] 0 0 false])[H4.length]? = some (.row [.int .i64 n, m] 0 0 false) := by simp
    have hE5 : Ext H4 (H4 ++ [AObj.row [.int .i64 n, m] 0 0 false]) := .push _ _
    have hE := hE4.trans hE5
    have lm := lm.ext hE5
    generalize H4 ++ [AObj.row [.int .i64 n, m] 0 0 false] = H5 at g5 hE lm ⊢
    generalize H4.length = w at g5 ⊢
    have la := la.ext hE
    have lb := lb.ext hE
    have lc := lc.ext hE
    have lr := lr.ext hE
    have g3 : H5[p]? = some (.row [.int .i64 n, r] 0 0 false) := by rw [hE.2 _ (List.getElem?_eq_some_iff.1 g3).1]; exact g3
    clear hO4 hE4 hE5 hE r3 hst
    have hmk := ls_known lm
    have r3 := ldn_c g3 hrk
    refine L_reg [5, 6, 7, 8, 9, 10, 11, 13, 14, 15] (fun K hK => ?_)
    simp [okFn_low, r3]
    refine Barred_ok hrO r _ lr _ (fun z H6 hO6 hE => ?_)
    rw [hN, hB] at hO6
    have lz := ownF_ls hO6
    simp
    apply hK; clear hK K
    have la := la.ext hE
    have lb := lb.ext hE
    have lc := lc.ext hE
    have lr := lr.ext hE
    have lm := lm.ext hE
    have g3 : H6[p]? = some (.row [.int .i64 n, r] 0 0 false) := by rw [hE.2 _ (List.getElem?_eq_some_iff.1 g3).1]; exact g3
    have g5 : H6[w]? = some (.row [.int .i64 n, m] 0 0 false) := by rw [hE.2 _ (List.getElem?_eq_some_iff.1 g5).1]; exact g5
    clear hO6 hE r3
    have r3 := ldn_c g3 hrk
    refine L_reg [5, 6, 7, 8, 9, 10, 11, 13, 14, 15, 16, 17] (fun K hK => ?_)
    simp [okFn_low, r3]
    refine Least_ok hrO r _ lr _ (fun y H7 hO7 hE => ?_)
    rw [hN, l1] at hO7
    have lly := ownF_ls hO7
    simp
    apply hK; clear hK K
    have la := la.ext hE
    have lb := lb.ext hE
    have lc := lc.ext hE
    have lr := lr.ext hE
    have lm := lm.ext hE
    have lz := lz.ext hE
    have g3 : H7[p]? = some (.row [.int .i64 n, r] 0 0 false) := by rw [hE.2 _ (List.getElem?_eq_some_iff.1 g3).1]; exact g3
    have g5 : H7[w]? = some (.row [.int .i64 n, m] 0 0 false) := by rw [hE.2 _ (List.getElem?_eq_some_iff.1 g5).1]; exact g5
    clear hO7 hE r3
    have c3 := ld_c1 g3 hrk
    have c5 := ld_c0 g5
    have c6 := ld_c1 g5 hmk
    refine L_reg [5, 6, 10, 13, 141] (fun K hK => ?_)
    simp [okFn_low, c3, pickV]
    refine sameT_q r a O (by omega) _ lr la _ ?_
    simp [okFn_low, pickV]
    refine sameT_q y a O (by omega) _ lly la _ ?_
    simp [okFn_low, pickV]
    refine sameT_q z c B (by omega) _ lz lc _ ?_
    simp [okFn_low, pickV, c5, c6]
    refine sameT_q m b L (by omega) _ lm lb _ ?_
    simp [pickV]
    apply hK; clear hK K
    refine L_false rfl ?_
    have r5 := ldn_c g5 hmk
    refine L_reg [5, 6, 10, 18, 19] (fun K hK => ?_)
    simp [okFn_low, r5]
    refine Keys_ok hrL m _ lm _ (fun u H8 hO8 hE => ?_)
    simp
    apply hK; clear hK K
    have lu := ownF_ls hO8
    have lb := lb.ext hE
    have lenu := ls_len lu
    have lenb := ls_len lb
    rw [kL_len] at lenu
    rw [il_len] at lenb
    refine L_reg [5, 6, 10, 18, 154] (fun K hK => ?_)
    simp [lenu, pickV]
    apply hK; clear hK K
    refine L_false rfl ?_
    refine L_reg [5, 6, 10, 18, 155, 156, 157] (fun K hK => ?_)
    simp [lenu]
    apply hK; clear hK K
    refine L_block (L_loopV [157] (fun q vs H' => ∃ i : Nat, q = n - i ∧ i ≤ n ∧ vs = [.int .i64 i] ∧ H8 = H') _ [.int .i64 (0 : Nat)] rfl ⟨0, rfl, by omega, rfl, rfl⟩ ?_)
    rintro q _ _ ⟨i, rfl, hi, rfl, rfl⟩
    refine L_reg [5, 6, 10, 18, 155, 156, 157, 158] (fun K hK => ?_)
    simp
    apply hK; clear hK K
    refine L_dec (i < n) (by simp) (fun hlt => ?_) (fun hge => L_exit ?_)
    · refine L_block ?_
      obtain ⟨rz, pz, vz, hix, hldz⟩ := ls_ix lu (i := i) (by rw [kL_len]; exact hlt)
      obtain ⟨r0, p0, v0, hix0, hld0⟩ := ls_ix lu (i := 0) (by rw [kL_len]; omega)
      have t1 : (kL n (keyS L))[i]'(by rw [kL_len]; exact hlt) = (keyS L i : Nat) := by simp [kL]
      have t0 : (kL n (keyS L))[0]'(by rw [kL_len]; omega) = (keyS L 0 : Nat) := by simp [kL]
      rw [t1] at hldz
      rw [t0] at hld0
      obtain ⟨k1, k2⟩ := ky i hlt
      rw [← k1] at hld0
      have kle := keyS_le L i
      generalize keyS L i = f at hldz hld0 k2 kle
      refine L_reg [5, 6, 10, 18, 21, 155, 156, 157] (fun K hK => ?_)
      simp [hix, hldz]
      apply hK; clear hK K
      have hz0 : ∀ k : IntKind, aIndexAddr Try.prog 22 u (.int k 0) = some (.ptr r0 p0 v0) := fun k => by simpa using hix0 k
      refine L_reg [5, 6, 10, 18, 155, 156, 157, 182] (fun K hK => ?_)
      suffices hk : K [(5, .int .i64 n), (6, .int .i64 k), (10, b), (18, u), (155, u), (156, .int .i64 n), (157, .int .i64 i), (182, .bool false)] H8 by
        by_cases h0 : 0 < k
        · have hm : f * n = L.length * (n - k + 1) := by
            rcases k2 with h | h
            · omega
            · exact h
          have b1 : f * n ≤ 64 * 6 := Nat.mul_le_mul (by omega) hn6
          obtain ⟨M, hM⟩ : ∃ M, f * n = M := ⟨_, rfl⟩
          have i1 : (f : Int) * n = M := by rw [← hM]; simp
          have i2 : (L.length : Int) * ((n : Int) - k + 1) = M := by
            rw [← hM, hm]
            have : ((n - k + 1 : Nat) : Int) = (n : Int) - k + 1 := by omega
            rw [Int.natCast_mul, this]
          simp [hz0, hld0, h0, lenb, wrap_i64 (a := (n : Int) - k) (by omega), wrap_i64 (a := (n : Int) - k + 1) (by omega), i1, i2, wrap_i64 (a := (M : Int)) (by omega), pickV]
          exact hk
        · simp [hz0, hld0, h0, pickV]
          exact hk
      apply hK; clear hK K
      refine L_false rfl ?_
      refine L_reg [5, 6, 10, 18, 155, 156, 157] (fun K hK => ?_)
      simp [wrap_i64 (a := (i : Int) + 1) (by omega)]
      apply hK; clear hK K
      exact ⟨n - (i + 1), [.int .i64 (i + 1 : Nat)], by omega, by simp, i + 1, rfl, by omega, rfl, rfl⟩
    · refine L_reg [4] (fun K hK => ?_)
      simp [okFn_low]
      refine works_ac _ _ ?_
      simp
      apply hK; clear hK K
      exact L_ret ⟨.inr rfl, _, rfl, rfl⟩
end Go.Proofs.Ytcidcihpkdoejaa.Bo
