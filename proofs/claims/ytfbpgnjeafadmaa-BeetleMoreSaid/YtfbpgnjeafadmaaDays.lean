/- The first days: the array is laid, and three sets of marks. -/
import Derived.Test.YtfbpgnjeafadmaaDayM
namespace Go.Proofs.Ytfbpgnjeafadmaa.Fl
open Go Go.Proofs.Ytfbpgnjeafadmaa Go.Proofs.Ytfbpgnjeafadmaa.AX
set_option maxRecDepth 100000

theorem pt0 (H : AH) (A B C T : Nat → Bool) : storeV Try.prog 79 (H ++ [.row (bA A) 0 0 false, .row (bA B) 0 0 false, .row (bA C) 0 0 false]) (.ptr H.length 0 0) (.agg (bA T)) = some (none, H ++ [.row (bA T) 0 0 false, .row (bA B) 0 0 false, .row (bA C) 0 0 false]) := by
  rw [st_m (S := A) (s := 0) (by simp)]; simp
theorem pt1 (H : AH) (A B C T : Nat → Bool) : storeV Try.prog 79 (H ++ [.row (bA A) 0 0 false, .row (bA B) 0 0 false, .row (bA C) 0 0 false]) (.ptr (H.length + 1) 0 0) (.agg (bA T)) = some (none, H ++ [.row (bA A) 0 0 false, .row (bA T) 0 0 false, .row (bA C) 0 0 false]) := by
  rw [st_m (S := B) (s := 0) (by simp)]; simp
theorem pt2 (H : AH) (A B C T : Nat → Bool) : storeV Try.prog 79 (H ++ [.row (bA A) 0 0 false, .row (bA B) 0 0 false, .row (bA C) 0 0 false]) (.ptr (H.length + 2) 0 0) (.agg (bA T)) = some (none, H ++ [.row (bA A) 0 0 false, .row (bA B) 0 0 false, .row (bA T) 0 0 false]) := by
  rw [st_m (S := C) (s := 0) (by simp)]; simp
set_option maxHeartbeats 4000000 in
theorem days_ac {r c n : Nat} (hs : Sd r c) (hn : r * c = n) (S Z : Nat → Bool) (hS : ∀ b, S b = true → b < n) (H : AH) (Q : AV → AH → Prop) (h : ∀ H', Ext H H' → Q (.agg (iA (day r c (opn n Z) S))) H') : AC Try.prog 57 [.agg (fl r c S Z)] H Q := by
  refine L_body 47 Try.func57 rfl rfl ?_
  have h25 := hs.le
  obtain ⟨I, hI, hz⟩ := zeroT_some zt87'
  obtain ⟨X, hX, hx⟩ := zeroT_some zt79'
  refine L_reg [1, 2] (fun K hK => ?_)
  simp [AV.isU, acells, hI, hz]
  apply hK; clear hK K
  refine L_reg [1, 2, 3] (fun K hK => ?_)
  simp [hI, hz]
  apply hK; clear hK K
  have h1 : (H ++ [AObj.row (fl r c S Z) 0 0 false, AObj.row (iA fun _ => 0) 0 0 false, AObj.row (iA fun _ => 0) 0 0 false])[H.length]? = some (.row (fl r c S Z) 0 0 false) := by simp
  have h2 : (H ++ [AObj.row (fl r c S Z) 0 0 false, AObj.row (iA fun _ => 0) 0 0 false, AObj.row (iA fun _ => 0) 0 0 false])[H.length + 1]? = some (.row (iA fun _ => 0) 0 0 false) := by simp
  have h3 : (H ++ [AObj.row (fl r c S Z) 0 0 false, AObj.row (iA fun _ => 0) 0 0 false, AObj.row (iA fun _ => 0) 0 0 false])[H.length + 2]? = some (.row (iA fun b => if b < 0 then -1 else 0) 0 0 false) := by
    simp only [List.getElem?_append_right (Nat.le_add_right _ _), Nat.add_sub_cancel_left]
    simp
  have hE : Ext H (H ++ [AObj.row (fl r c S Z) 0 0 false, AObj.row (iA fun _ => 0) 0 0 false, AObj.row (iA fun _ => 0) 0 0 false]) := .push _ _
  have hl : H.length + 3 ≤ (H ++ [AObj.row (fl r c S Z) 0 0 false, AObj.row (iA fun _ => 0) 0 0 false, AObj.row (iA fun _ => 0) 0 0 false]).length := by simp
  generalize H ++ [AObj.row (fl r c S Z) 0 0 false, AObj.row (iA fun _ => 0) 0 0 false, AObj.row (iA fun _ => 0) 0 0 false] = H1 at h1 h2 h3 hE hl ⊢
  refine L_reg [1, 2, 3, 11] (fun K hK => ?_)
  simp
  apply hK; clear hK K
  refine L_block (L_loopV [11] (fun q vs H' => ∃ (i s : Nat), q = 25 - i ∧ i ≤ 25 ∧ vs = [.int .i64 i] ∧ Ext H H' ∧ H'[H.length]? = some (.row (fl r c S Z) 0 0 false) ∧ H'[H.length + 1]? = some (.row (iA fun _ => 0) 0 0 false) ∧ H'[H.length + 2]? = some (.row (iA fun b => if b < i then -1 else 0) 0 s false) ∧ H.length + 3 ≤ H'.length) _ [.int .i64 (0 : Nat)] rfl ⟨0, 0, rfl, by omega, rfl, hE, h1, h2, h3, hl⟩ ?_)
  clear h1 h2 h3 hE hl H1
  rintro q _ H1 ⟨i, s, rfl, hi, rfl, hE, h1, h2, h3, hl⟩
  refine L_reg [1, 2, 3, 11, 12] (fun K hK => ?_)
  simp
  apply hK; clear hK K
  refine L_dec (i < 25) (by simp; omega) (fun hlt => ?_) (fun hge => L_exit ?_)
  · refine L_block ?_
    have hii : (i : Int) < 25 := by omega
    have hst := st_i (v := -1) h3 hlt
    have e : updI (fun b => if b < i then -1 else 0) i (-1) = fun b => if b < i + 1 then -1 else 0 := by
      funext b
      show (if b = i then (-1 : Int) else if b < i then -1 else 0) = if b < i + 1 then -1 else 0
      by_cases hb : b = i
      · rw [if_pos hb, if_pos (by omega)]
      · rw [if_neg hb]
        by_cases hb2 : b < i
        · rw [if_pos hb2, if_pos (by omega)]
        · rw [if_neg hb2, if_neg (by omega)]
    rw [e] at hst
    refine L_reg [1, 2, 3, 4, 11] (fun K hK => ?_)
    simp
    apply hK; clear hK K
    refine L_reg [1, 2, 3, 11] (fun K hK => ?_)
    simp [hii, hst]
    apply hK; clear hK K
    refine L_reg [1, 2, 3, 11] (fun K hK => ?_)
    simp [wrap_i64 (a := (i : Int) + 1) (by omega)]
    apply hK; clear hK K
    refine ⟨25 - (i + 1), [.int .i64 (i + 1 : Nat)], by omega, by simp, i + 1, min s i, rfl, by omega, rfl, hE.set _ (by omega), ?_, ?_, get_set h3, by simpa using hl⟩
    · rw [List.getElem?_set_ne (by omega)]; exact h1
    · rw [List.getElem?_set_ne (by omega)]; exact h2
  have e25 : i = 25 := by omega
  subst e25
  have e : iA (fun b => if b < 25 then -1 else 0) = iA (dl r c (opn n Z) S 0) := iA_ext fun b hb => by
    show _ = if none' b = true then _ else _
    rw [if_pos hb, if_neg (by simp [none'])]
  rw [e] at h3
  clear e hge
  have aF1 := ldn_F1 h1
  have aF := ldn_F h1
  refine L_regR mixed (fun K hK => ?_)
  have hfin : ∀ (p5 p6 p7 : Nat) (H9 : AH), p5 ≠ p6 → p5 ≠ p7 → p6 ≠ p7 → H1.length ≤ p5 → H1.length ≤ p6 → H1.length ≤ p7 → Ext H1 H9 → H9[p5]? = some (.row (bA none') 0 0 false) → H9[p6]? = some (.row (bA S) 0 0 false) → H9[p7]? = some (.row (bA (opn n Z)) 0 0 false) → K .normal [(1, .ptr H.length 0 0), (2, .ptr (H.length + 1) 0 0), (3, .ptr (H.length + 2) 0 0), (5, .ptr p5 0 0), (6, .ptr p6 0 0), (7, .ptr p7 0 0)] H9 := by
    intro p5 p6 p7 H9 n1 n2 n3 l5 l6 l7 hE9 h5 h6 h7
    apply hK; clear hK K
    replace h1 := hE9.row h1
    replace h2 := hE9.row h2
    replace h3 := hE9.row h3
    replace hE := hE.trans hE9
    clear hE9 aF1 aF
    obtain ⟨O, hO⟩ : ∃ O, opn n Z = O := ⟨_, rfl⟩
    rw [hO] at h h3 h7
    refine L_reg [1, 2, 3, 5, 6, 7, 8] (fun K hK => ?_)
    simp
    apply hK; clear hK K
    refine L_block (L_loopV [8] (fun q vs H' => ∃ (t s w5 w6 : Nat), q = n + 2 - t ∧ t ≤ n + 1 ∧ vs = [.int .i64 t] ∧ Ext H H' ∧ H'[H.length]? = some (.row (fl r c S Z) 0 0 false) ∧ H'[H.length + 1]? = some (.row (iA fun _ => 0) 0 0 false) ∧ H'[H.length + 2]? = some (.row (iA (dl r c O S t)) 0 s false) ∧ H'[p5]? = some (.row (bA (prv r c O S t)) 0 w5 false) ∧ H'[p6]? = some (.row (bA (D r c 2 O S t)) 0 w6 false) ∧ H'[p7]? = some (.row (bA O) 0 0 false)) _ [.int .i64 (0 : Nat)] rfl ⟨0, s, 0, 0, rfl, by omega, rfl, hE, h1, h2, h3, h5, h6, h7⟩ ?_)
    clear h1 h2 h3 h5 h6 h7 hE H9
    rintro q _ H9 ⟨t, s, w5, w6, rfl, htn, rfl, hE, h1, h2, h3, h5, h6, h7⟩
    have a5 := ldn_b h5
    have a6 := ldn_b h6
    refine L_reg [1, 2, 3, 5, 6, 7, 8, 24] (fun K hK => ?_)
    simp [a5, a6, b_neB]
    apply hK; clear hK K
    have hS' : ∀ b, S b = true → b < r * c := by rw [hn]; exact hS
    refine L_split rfl (fun hx => ?_) (fun hx => L_exit ?_)
    · have hx : ¬ ((List.range 25).all fun i => D r c 2 O S t i == prv r c O S t i) = true := by simpa using hx
      have htn2 : t ≠ n + 1 := by
        intro h0
        apply hx
        rw [all_eq]
        intro b _
        rw [h0]
        show D r c 2 O S (n + 1) b = D r c 2 O S n b
        rw [← hn, D_fix hS']
      obtain ⟨L, hL⟩ : ∃ L, num (sub' (D r c 2 O S t) (prv r c O S t)) = L := ⟨_, rfl⟩
      have hLl : L.length ≤ 25 := by rw [← hL]; exact num_len _
      refine L_block ?_
      refine L_reg [1, 2, 3, 5, 6, 7, 8, 30, 31, 32] (fun K hK => ?_)
      simp [okFn_low, a5, a6]
      refine without_q _ _ _ _ ?_
      simp [okFn_low]
      refine list_ac _ _ _ (fun v H2 hN hE2 => ?_)
      have hO := hN.2
      clear hN
      rw [hL] at hO
      have hv := ownF_ls hO
      simp [ls_len hv]
      apply hK; clear hK K
      have hl9 : H.length + 3 ≤ H9.length := by
        have := (List.getElem?_eq_some_iff.1 h3).1
        omega
      have h25' : r * c ≤ 25 := h25
      replace h1 := hE2.row h1
      replace h2 := hE2.row h2
      replace h3 := hE2.row h3
      replace h5 := hE2.row h5
      replace h6 := hE2.row h6
      replace h7 := hE2.row h7
      replace hE := hE.trans hE2
      obtain ⟨N, hN⟩ : ∃ N, H9.length = N := ⟨_, rfl⟩
      rw [hN] at hO hl9
      clear hE2 a5 a6 hx hv
      refine L_block (L_loopV [32] (fun q vs H' => ∃ (j s : Nat), q = L.length - j ∧ j ≤ L.length ∧ vs = [.int .i64 j] ∧ Ext H H' ∧ OwnF N H' v (L.map (.int .i64)) ∧ H'[H.length]? = some (.row (fl r c S Z) 0 0 false) ∧ H'[H.length + 1]? = some (.row (iA fun _ => 0) 0 0 false) ∧ H'[H.length + 2]? = some (.row (iA (dj r c O S t j)) 0 s false) ∧ H'[p5]? = some (.row (bA (prv r c O S t)) 0 w5 false) ∧ H'[p6]? = some (.row (bA (D r c 2 O S t)) 0 w6 false) ∧ H'[p7]? = some (.row (bA O) 0 0 false)) _ [.int .i64 (0 : Nat)] rfl ⟨0, s, rfl, by omega, rfl, hE, hO, h1, h2, by rw [dj_zero]; exact h3, h5, h6, h7⟩ ?_)
      clear h1 h2 h3 h5 h6 h7 hE hO H2
      rintro q _ H2 ⟨j, s, rfl, hj, rfl, hE, hO, h1, h2, h3, h5, h6, h7⟩
      have hv := ownF_ls hO
      refine L_reg [1, 2, 3, 5, 6, 7, 8, 30, 31, 32, 33] (fun K hK => ?_)
      simp
      apply hK; clear hK K
      refine L_dec (j < L.length) (by simp) (fun hlt => ?_) (fun hge => L_exit ?_)
      · refine L_block ?_
        obtain ⟨rz, pz, vz, hix, hldz⟩ := ls_ix hv hlt
        obtain ⟨b, hb, hb25, hSb⟩ := num_at (S := sub' (D r c 2 O S t) (prv r c O S t)) (i := j) (by rw [hL]; exact hlt)
        have hst0 := dj_succ (r := r) (c := c) (O := O) (S := S) (t := t) (j := j) (b := b) (by rw [hL]; exact hlt) hb (by
          simp only [sub', Bool.and_eq_true, Bool.not_eq_true'] at hSb
          exact hSb.2)
        rw [hL] at hb
        rw [hb] at hldz
        have hbi : (b : Int) < 25 := by omega
        have hst := st_i (v := (t : Nat)) h3 hb25
        rw [hst0] at hst
        refine L_reg [1, 2, 3, 5, 6, 7, 8, 10, 30, 31, 32] (fun K hK => ?_)
        simp [hix, hldz]
        apply hK; clear hK K
        refine L_reg [1, 2, 3, 5, 6, 7, 8, 30, 31, 32] (fun K hK => ?_)
        simp [hbi, hst]
        apply hK; clear hK K
        refine L_reg [1, 2, 3, 5, 6, 7, 8, 30, 31, 32] (fun K hK => ?_)
        simp [wrap_i64 (a := (j : Int) + 1) (by omega)]
        apply hK; clear hK K
        refine ⟨L.length - (j + 1), [.int .i64 (j + 1 : Nat)], by omega, by simp, j + 1, min s b, rfl, by omega, rfl, hE.set _ (by omega), ?_, ?_, ?_, get_set h3, ?_, ?_, ?_⟩
        · exact ownF_keep hO fun i o hi ho => by rw [List.getElem?_set_ne (by omega)]; exact ho
        · rw [List.getElem?_set_ne (by omega)]; exact h1
        · rw [List.getElem?_set_ne (by omega)]; exact h2
        · rw [List.getElem?_set_ne (by omega)]; exact h5
        · rw [List.getElem?_set_ne (by omega)]; exact h6
        · rw [List.getElem?_set_ne (by omega)]; exact h7
      · have hjl : j = (num (sub' (D r c 2 O S t) (prv r c O S t))).length := by rw [hL]; omega
        rw [hjl, dj_end (by omega)] at h3
        have a0 := ldn_F0 h1
        have a6 := ldn_b h6
        have a7 := ldn_b h7
        have hst5 := st_m (T := D r c 2 O S t) h5
        have h6' : (H2.set p5 (.row (bA (D r c 2 O S t)) 0 0 false))[p6]? = some (.row (bA (D r c 2 O S t)) 0 w6 false) := by rw [List.getElem?_set_ne n1]; exact h6
        have hst6 := st_m (T := D r c 2 O S (t + 1)) h6'
        refine L_regZ mixed [p5, p6] [1, 0, 0, 0, 0, 0] [] [1, 2, 3, 5, 6, 7, 8] (by kernel_rfl) (fun K hK => ?_)
        simp [okFn_low, a0, a6, a7]
        refine exX_mk (fun Q hQ => grown_q hs hn 2 _ _ _ Q hQ) (.refl _) ?_
        rw [← D_succ]
        simp [hst5, hst6]
        apply hK; clear hK K
        refine L_reg [1, 2, 3, 5, 6, 7, 8] (fun K hK => ?_)
        simp [wrap_i64 (a := (t : Int) + 1) (by omega)]
        apply hK; clear hK K
        have hlo : H.length + 3 ≤ H1.length := hl
        refine ⟨n + 2 - (t + 1), [.int .i64 (t + 1 : Nat)], by omega, by simp, t + 1, s, 0, 0, rfl, by omega, rfl, (hE.set _ (by omega)).set _ (by omega), ?_, ?_, ?_, ?_, ?_, ?_⟩
        · rw [List.getElem?_set_ne (by omega), List.getElem?_set_ne (by omega)]; exact h1
        · rw [List.getElem?_set_ne (by omega), List.getElem?_set_ne (by omega)]; exact h2
        · rw [List.getElem?_set_ne (by omega), List.getElem?_set_ne (by omega)]; exact h3
        · rw [List.getElem?_set_ne (by omega)]; exact get_set h5
        · exact get_set h6'
        · rw [List.getElem?_set_ne (by omega), List.getElem?_set_ne (by omega)]; exact h7
    · have hx : ((List.range 25).all fun i => D r c 2 O S t i == prv r c O S t i) = true := by simpa using hx
      have he : D r c 2 O S t = prv r c O S t := by
        funext b
        by_cases hb : b < 25
        · exact all_eq.1 hx b hb
        · have f : D r c 2 O S t b = false := by
            cases hd : D r c 2 O S t b with
            | false => rfl
            | true => have := D_sup hS' t b hd; omega
          rw [f]
          cases hp : prv r c O S t b with
          | false => rfl
          | true => rw [prv_sub hp] at f; cases f
      rw [iA_ext (h := day r c O S) (fun b _ => dl_end hS' h25 he b)] at h3
      have a3 := ldn_i h3
      have hst := st_I (h := day r c O S) h2
      refine L_reg [2] (fun K hK => ?_)
      simp [a3, hst]
      apply hK; clear hK K
      refine L_ret ⟨.inr rfl, _, res_cell rfl ?_, h _ (hE.set _ (by omega))⟩
      simp [ldn_i (get_set h2)]
  have ex : ∀ l : AH, Ext H1 (H1 ++ l) := fun l => .push _ _
  refine AWR_pair (x := 4) (y := 5) (ord := [0, 1, 2, 3, 5, 4, 6, 7, 8, 9, 10]) (by kernel_rfl) ?_ ?_
  · refine AWR_pair (x := 4) (y := 6) (ord := [0, 1, 2, 3, 6, 4, 5, 7, 8, 9, 10]) (by kernel_rfl) ?_ ?_
    · refine AWR_pair (x := 4) (y := 7) (ord := [0, 1, 2, 3, 7, 4, 5, 6, 8, 9, 10]) (by kernel_rfl) ?_ ?_
      · refine AWR_pair (x := 5) (y := 6) (ord := [0, 1, 2, 3, 4, 6, 5, 7, 8, 9, 10]) (by kernel_rfl) ?_ ?_
        · refine AWR_pair (x := 5) (y := 7) (ord := [0, 1, 2, 3, 4, 7, 5, 6, 8, 9, 10]) (by kernel_rfl) ?_ ?_
          · refine AWR_pair (x := 6) (y := 7) (ord := [0, 1, 2, 3, 4, 5, 7, 6, 8, 9, 10]) (by kernel_rfl) ?_ ?_
            · refine AWR_U [1, 2, 3, 5, 6, 7] [false, false, true, false, false, false, false, false, false] rfl (by kernel_rfl) ?_
              simp [addE, okFn_low, aF1, aF, bd79]
              refine exX_mk (fun Q hQ => open_q hs hn S Z _ Q hQ) (by first | exact .refl _ | exact ex _) ?_
              simp [hX, hx, pt0, pt1, pt2, ex]
              refine hfin H1.length (H1.length + 1) (H1.length + 2) _ (by omega) (by omega) (by omega) (by omega) (by omega) (by omega) (.push _ _) ?_ ?_ ?_ <;> simp
            · refine AWR_U [1, 2, 3, 5, 6, 7] [false, false, true, false, false, false, false, false, false] rfl (by kernel_rfl) ?_
              simp [addE, permL, okFn_low, aF1, aF, bd79]
              refine exX_mk (fun Q hQ => open_q hs hn S Z _ Q hQ) (by first | exact .refl _ | exact ex _) ?_
              simp [hX, hx, pt0, pt1, pt2, ex]
              refine hfin H1.length (H1.length + 2) (H1.length + 1) _ (by omega) (by omega) (by omega) (by omega) (by omega) (by omega) (.push _ _) ?_ ?_ ?_ <;> simp
          · refine AWR_U [1, 2, 3, 5, 6, 7] [false, false, true, false, false, false, false, false, false] rfl (by kernel_rfl) ?_
            simp [addE, permL, okFn_low, aF1, aF, bd79]
            refine exX_mk (fun Q hQ => open_q hs hn S Z _ Q hQ) (by first | exact .refl _ | exact ex _) ?_
            simp [hX, hx, pt0, pt1, pt2, ex]
            refine hfin (H1.length + 1) (H1.length + 2) H1.length _ (by omega) (by omega) (by omega) (by omega) (by omega) (by omega) (.push _ _) ?_ ?_ ?_ <;> simp
        · refine AWR_pair (x := 5) (y := 7) (ord := [0, 1, 2, 3, 4, 7, 5, 6, 8, 9, 10]) (by kernel_rfl) ?_ ?_
          · refine AWR_pair (x := 6) (y := 7) (ord := [0, 1, 2, 3, 4, 5, 7, 6, 8, 9, 10]) (by kernel_rfl) ?_ ?_
            · refine AWR_U [1, 2, 3, 5, 6, 7] [false, false, true, false, false, false, false, false, false] rfl (by kernel_rfl) ?_
              simp [addE, permL, okFn_low, aF1, aF, bd79]
              refine exX_mk (fun Q hQ => open_q hs hn S Z _ Q hQ) (by first | exact .refl _ | exact ex _) ?_
              simp [hX, hx, pt0, pt1, pt2, ex]
              refine hfin (H1.length + 1) H1.length (H1.length + 2) _ (by omega) (by omega) (by omega) (by omega) (by omega) (by omega) (.push _ _) ?_ ?_ ?_ <;> simp
            · refine AWR_U [1, 2, 3, 5, 6, 7] [false, false, true, false, false, false, false, false, false] rfl (by kernel_rfl) ?_
              simp [addE, permL, okFn_low, aF1, aF, bd79]
              refine exX_mk (fun Q hQ => open_q hs hn S Z _ Q hQ) (by first | exact .refl _ | exact ex _) ?_
              simp [hX, hx, pt0, pt1, pt2, ex]
              refine hfin (H1.length + 2) H1.length (H1.length + 1) _ (by omega) (by omega) (by omega) (by omega) (by omega) (by omega) (.push _ _) ?_ ?_ ?_ <;> simp
          · refine AWR_U [1, 2, 3, 5, 6, 7] [false, false, true, false, false, false, false, false, false] rfl (by kernel_rfl) ?_
            simp [addE, permL, okFn_low, aF1, aF, bd79]
            refine exX_mk (fun Q hQ => open_q hs hn S Z _ Q hQ) (by first | exact .refl _ | exact ex _) ?_
            simp [hX, hx, pt0, pt1, pt2, ex]
            refine hfin (H1.length + 2) (H1.length + 1) H1.length _ (by omega) (by omega) (by omega) (by omega) (by omega) (by omega) (.push _ _) ?_ ?_ ?_ <;> simp
      · refine AWR_pair (x := 6) (y := 7) (ord := [0, 1, 2, 3, 4, 5, 7, 6, 8, 9, 10]) (by kernel_rfl) ?_ ?_
        · refine AWR_U [1, 2, 3, 5, 6, 7] [false, false, true, true, false, false, false, false, false] rfl (by kernel_rfl) ?_
          simp [addE, permL, okFn_low, aF1, aF, hX, hx, bd79, ex]
          refine exX_mk (fun Q hQ => open_q hs hn S Z _ Q hQ) (by first | exact .refl _ | exact ex _) ?_
          simp [hX, hx, pt0, pt1, pt2, ex]
          refine hfin (H1.length + 1) (H1.length + 2) H1.length _ (by omega) (by omega) (by omega) (by omega) (by omega) (by omega) (.push _ _) ?_ ?_ ?_ <;> simp
        · refine AWR_U [1, 2, 3, 5, 6, 7] [false, false, true, true, false, false, false, false, false] rfl (by kernel_rfl) ?_
          simp [addE, permL, okFn_low, aF1, aF, hX, hx, bd79, ex]
          refine exX_mk (fun Q hQ => open_q hs hn S Z _ Q hQ) (by first | exact .refl _ | exact ex _) ?_
          simp [hX, hx, pt0, pt1, pt2, ex]
          refine hfin (H1.length + 2) (H1.length + 1) H1.length _ (by omega) (by omega) (by omega) (by omega) (by omega) (by omega) (.push _ _) ?_ ?_ ?_ <;> simp
    · refine AWR_pair (x := 4) (y := 7) (ord := [0, 1, 2, 3, 7, 4, 5, 6, 8, 9, 10]) (by kernel_rfl) ?_ ?_
      · refine AWR_pair (x := 5) (y := 7) (ord := [0, 1, 2, 3, 4, 7, 5, 6, 8, 9, 10]) (by kernel_rfl) ?_ ?_
        · refine AWR_pair (x := 6) (y := 7) (ord := [0, 1, 2, 3, 4, 5, 7, 6, 8, 9, 10]) (by kernel_rfl) ?_ ?_
          · refine AWR_U [1, 2, 3, 5, 6, 7] [false, false, true, true, false, false, false, false, false] rfl (by kernel_rfl) ?_
            simp [addE, permL, okFn_low, aF1, aF, hX, hx, bd79, ex]
            refine exX_mk (fun Q hQ => open_q hs hn S Z _ Q hQ) (by first | exact .refl _ | exact ex _) ?_
            simp [hX, hx, pt0, pt1, pt2, ex]
            refine hfin (H1.length + 1) H1.length (H1.length + 2) _ (by omega) (by omega) (by omega) (by omega) (by omega) (by omega) (.push _ _) ?_ ?_ ?_ <;> simp
          · refine AWR_U [1, 2, 3, 5, 6, 7] [false, false, true, true, false, false, false, false, false] rfl (by kernel_rfl) ?_
            simp [addE, permL, okFn_low, aF1, aF, hX, hx, bd79, ex]
            refine exX_mk (fun Q hQ => open_q hs hn S Z _ Q hQ) (by first | exact .refl _ | exact ex _) ?_
            simp [hX, hx, pt0, pt1, pt2, ex]
            refine hfin (H1.length + 2) H1.length (H1.length + 1) _ (by omega) (by omega) (by omega) (by omega) (by omega) (by omega) (.push _ _) ?_ ?_ ?_ <;> simp
        · refine AWR_U [1, 2, 3, 5, 6, 7] [false, false, true, true, false, false, false, false, false] rfl (by kernel_rfl) ?_
          simp [addE, permL, okFn_low, aF1, aF, hX, hx, bd79, ex]
          refine exX_mk (fun Q hQ => open_q hs hn S Z _ Q hQ) (by first | exact .refl _ | exact ex _) ?_
          simp [hX, hx, pt0, pt1, pt2, ex]
          refine hfin (H1.length + 2) H1.length (H1.length + 1) _ (by omega) (by omega) (by omega) (by omega) (by omega) (by omega) (.push _ _) ?_ ?_ ?_ <;> simp
      · refine AWR_U [1, 2, 3, 5, 6, 7] [false, false, true, true, false, false, false, false, false] rfl (by kernel_rfl) ?_
        simp [addE, permL, okFn_low, aF1, aF, hX, hx, bd79, ex]
        refine exX_mk (fun Q hQ => open_q hs hn S Z _ Q hQ) (by first | exact .refl _ | exact ex _) ?_
        simp [hX, hx, pt0, pt1, pt2, ex]
        refine hfin (H1.length + 2) (H1.length + 1) H1.length _ (by omega) (by omega) (by omega) (by omega) (by omega) (by omega) (.push _ _) ?_ ?_ ?_ <;> simp
  · refine AWR_pair (x := 4) (y := 6) (ord := [0, 1, 2, 3, 6, 4, 5, 7, 8, 9, 10]) (by kernel_rfl) ?_ ?_
    · refine AWR_pair (x := 4) (y := 7) (ord := [0, 1, 2, 3, 7, 4, 5, 6, 8, 9, 10]) (by kernel_rfl) ?_ ?_
      · refine AWR_pair (x := 5) (y := 6) (ord := [0, 1, 2, 3, 4, 6, 5, 7, 8, 9, 10]) (by kernel_rfl) ?_ ?_
        · refine AWR_pair (x := 5) (y := 7) (ord := [0, 1, 2, 3, 4, 7, 5, 6, 8, 9, 10]) (by kernel_rfl) ?_ ?_
          · refine AWR_pair (x := 6) (y := 7) (ord := [0, 1, 2, 3, 4, 5, 7, 6, 8, 9, 10]) (by kernel_rfl) ?_ ?_
            · refine AWR_U [1, 2, 3, 5, 6, 7] [false, false, true, true, false, false, false, false, false] rfl (by kernel_rfl) ?_
              simp [addE, permL, okFn_low, aF1, aF, hX, hx, bd79, ex]
              refine exX_mk (fun Q hQ => open_q hs hn S Z _ Q hQ) (by first | exact .refl _ | exact ex _) ?_
              simp [hX, hx, pt0, pt1, pt2, ex]
              refine hfin H1.length (H1.length + 1) (H1.length + 2) _ (by omega) (by omega) (by omega) (by omega) (by omega) (by omega) (.push _ _) ?_ ?_ ?_ <;> simp
            · refine AWR_U [1, 2, 3, 5, 6, 7] [false, false, true, true, false, false, false, false, false] rfl (by kernel_rfl) ?_
              simp [addE, permL, okFn_low, aF1, aF, hX, hx, bd79, ex]
              refine exX_mk (fun Q hQ => open_q hs hn S Z _ Q hQ) (by first | exact .refl _ | exact ex _) ?_
              simp [hX, hx, pt0, pt1, pt2, ex]
              refine hfin H1.length (H1.length + 2) (H1.length + 1) _ (by omega) (by omega) (by omega) (by omega) (by omega) (by omega) (.push _ _) ?_ ?_ ?_ <;> simp
          · refine AWR_U [1, 2, 3, 5, 6, 7] [false, false, true, true, false, false, false, false, false] rfl (by kernel_rfl) ?_
            simp [addE, permL, okFn_low, aF1, aF, hX, hx, bd79, ex]
            refine exX_mk (fun Q hQ => open_q hs hn S Z _ Q hQ) (by first | exact .refl _ | exact ex _) ?_
            simp [hX, hx, pt0, pt1, pt2, ex]
            refine hfin H1.length (H1.length + 2) (H1.length + 1) _ (by omega) (by omega) (by omega) (by omega) (by omega) (by omega) (.push _ _) ?_ ?_ ?_ <;> simp
        · refine AWR_pair (x := 5) (y := 7) (ord := [0, 1, 2, 3, 4, 7, 5, 6, 8, 9, 10]) (by kernel_rfl) ?_ ?_
          · refine AWR_pair (x := 6) (y := 7) (ord := [0, 1, 2, 3, 4, 5, 7, 6, 8, 9, 10]) (by kernel_rfl) ?_ ?_
            · refine AWR_U [1, 2, 3, 5, 6, 7] [false, false, true, true, false, false, false, false, false] rfl (by kernel_rfl) ?_
              simp [addE, permL, okFn_low, aF1, aF, hX, hx, bd79, ex]
              refine exX_mk (fun Q hQ => open_q hs hn S Z _ Q hQ) (by first | exact .refl _ | exact ex _) ?_
              simp [hX, hx, pt0, pt1, pt2, ex]
              refine hfin H1.length (H1.length + 1) (H1.length + 2) _ (by omega) (by omega) (by omega) (by omega) (by omega) (by omega) (.push _ _) ?_ ?_ ?_ <;> simp
            · refine AWR_U [1, 2, 3, 5, 6, 7] [false, false, true, true, false, false, false, false, false] rfl (by kernel_rfl) ?_
              simp [addE, permL, okFn_low, aF1, aF, hX, hx, bd79, ex]
              refine exX_mk (fun Q hQ => open_q hs hn S Z _ Q hQ) (by first | exact .refl _ | exact ex _) ?_
              simp [pt0, pt1, pt2, ex]
              refine hfin H1.length (H1.length + 1) (H1.length + 2) _ (by omega) (by omega) (by omega) (by omega) (by omega) (by omega) (.push _ _) ?_ ?_ ?_ <;> simp
          · refine AWR_U [1, 2, 3, 5, 6, 7] [false, false, true, true, false, false, false, false, false] rfl (by kernel_rfl) ?_
            simp [addE, permL, okFn_low, aF1, aF, hX, hx, bd79, ex]
            refine exX_mk (fun Q hQ => open_q hs hn S Z _ Q hQ) (by first | exact .refl _ | exact ex _) ?_
            simp [pt0, pt1, pt2, ex]
            refine hfin H1.length (H1.length + 2) (H1.length + 1) _ (by omega) (by omega) (by omega) (by omega) (by omega) (by omega) (.push _ _) ?_ ?_ ?_ <;> simp
      · refine AWR_pair (x := 6) (y := 7) (ord := [0, 1, 2, 3, 4, 5, 7, 6, 8, 9, 10]) (by kernel_rfl) ?_ ?_
        · refine AWR_U [1, 2, 3, 5, 6, 7] [false, false, true, true, false, false, false, false, false] rfl (by kernel_rfl) ?_
          simp [addE, permL, okFn_low, aF1, aF, hX, hx, bd79, ex]
          refine exX_mk (fun Q hQ => open_q hs hn S Z _ Q hQ) (by first | exact .refl _ | exact ex _) ?_
          simp [hX, hx, pt0, pt1, pt2, ex]
          refine hfin (H1.length + 1) (H1.length + 2) H1.length _ (by omega) (by omega) (by omega) (by omega) (by omega) (by omega) (.push _ _) ?_ ?_ ?_ <;> simp
        · refine AWR_U [1, 2, 3, 5, 6, 7] [false, false, true, true, false, false, false, false, false] rfl (by kernel_rfl) ?_
          simp [addE, permL, okFn_low, aF1, aF, hX, hx, bd79, ex]
          refine exX_mk (fun Q hQ => open_q hs hn S Z _ Q hQ) (by first | exact .refl _ | exact ex _) ?_
          simp [pt0, pt1, pt2, ex]
          refine hfin (H1.length + 1) (H1.length + 2) H1.length _ (by omega) (by omega) (by omega) (by omega) (by omega) (by omega) (.push _ _) ?_ ?_ ?_ <;> simp
    · refine AWR_pair (x := 4) (y := 7) (ord := [0, 1, 2, 3, 7, 4, 5, 6, 8, 9, 10]) (by kernel_rfl) ?_ ?_
      · refine AWR_pair (x := 5) (y := 7) (ord := [0, 1, 2, 3, 4, 7, 5, 6, 8, 9, 10]) (by kernel_rfl) ?_ ?_
        · refine AWR_pair (x := 6) (y := 7) (ord := [0, 1, 2, 3, 4, 5, 7, 6, 8, 9, 10]) (by kernel_rfl) ?_ ?_
          · refine AWR_U [1, 2, 3, 5, 6, 7] [false, false, true, true, false, false, false, false, false] rfl (by kernel_rfl) ?_
            simp [addE, permL, okFn_low, aF1, aF, hX, hx, bd79, ex]
            refine exX_mk (fun Q hQ => open_q hs hn S Z _ Q hQ) (by first | exact .refl _ | exact ex _) ?_
            simp [hX, hx, pt0, pt1, pt2, ex]
            refine hfin (H1.length + 1) H1.length (H1.length + 2) _ (by omega) (by omega) (by omega) (by omega) (by omega) (by omega) (.push _ _) ?_ ?_ ?_ <;> simp
          · refine AWR_U [1, 2, 3, 5, 6, 7] [false, false, true, true, false, false, false, false, false] rfl (by kernel_rfl) ?_
            simp [addE, permL, okFn_low, aF1, aF, hX, hx, bd79, ex]
            refine exX_mk (fun Q hQ => open_q hs hn S Z _ Q hQ) (by first | exact .refl _ | exact ex _) ?_
            simp [pt0, pt1, pt2, ex]
            refine hfin (H1.length + 1) H1.length (H1.length + 2) _ (by omega) (by omega) (by omega) (by omega) (by omega) (by omega) (.push _ _) ?_ ?_ ?_ <;> simp
        · refine AWR_U [1, 2, 3, 5, 6, 7] [false, false, true, true, false, false, false, false, false] rfl (by kernel_rfl) ?_
          simp [addE, permL, okFn_low, aF1, aF, hX, hx, bd79, ex]
          refine exX_mk (fun Q hQ => open_q hs hn S Z _ Q hQ) (by first | exact .refl _ | exact ex _) ?_
          simp [pt0, pt1, pt2, ex]
          refine hfin (H1.length + 2) H1.length (H1.length + 1) _ (by omega) (by omega) (by omega) (by omega) (by omega) (by omega) (.push _ _) ?_ ?_ ?_ <;> simp
      · refine AWR_U [1, 2, 3, 5, 6, 7] [false, false, true, true, false, false, false, false, false] rfl (by kernel_rfl) ?_
        simp [addE, permL, okFn_low, aF1, aF, hX, hx, bd79, ex]
        refine exX_mk (fun Q hQ => open_q hs hn S Z _ Q hQ) (by first | exact .refl _ | exact ex _) ?_
        simp [pt0, pt1, pt2, ex]
        refine hfin (H1.length + 2) (H1.length + 1) H1.length _ (by omega) (by omega) (by omega) (by omega) (by omega) (by omega) (.push _ _) ?_ ?_ ?_ <;> simp
end Go.Proofs.Ytfbpgnjeafadmaa.Fl
