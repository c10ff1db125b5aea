/- Joined texts: Days, Near, Rep, LDays, Pub, Pub2, LSpr, Made, Msk, Works. -/
import Derived.Test.YtfbpgnjeafadmaaJ816a
import Derived.Test.YtfbpgnjeafadmaaAxQ
/- The first days: the array is laid, and three sets of marks. -/
namespace Go.Proofs.Ytfbpgnjeafadmaa.Fl
open Go Go.Proofs.Ytfbpgnjeafadmaa Go.Proofs.Ytfbpgnjeafadmaa.AX
set_option maxRecDepth 100000

theorem pt0 (H : AH) (A B C T : Nat → Bool) : storeV Try.prog 79 (H ++ [.row (bA A) 0 0 false, .row (bA B) 0 0 false, .row (bA C) 0 0 false]) (.ptr H.length 0 0) (.agg (bA T)) = some (none, H ++ [.row (bA T) 0 0 false, .row (bA B) 0 0 false, .row (bA C) 0 0 false]) := by
  rw [st_m (S := A) (s := 0) (by simp)]; simp
theorem pt1 (H : AH) (A B C T : Nat → Bool) : storeV Try.prog 79 (H ++ [.row (bA A) 0 0 false, .row (bA B) 0 0 false, .row (bA C) 0 0 false]) (.ptr (H.length + 1) 0 0) (.agg (bA T)) = some (none, H ++ [.row (bA A) 0 0 false, .row (bA T) 0 0 false, .row (bA C) 0 0 false]) := by
  rw [st_m (S := B) (s := 0) (by simp)]; simp
theorem pt2 (H : AH) (A B C T : Nat → Bool) : storeV Try.prog 79 (H ++ [.row (bA A) 0 0 false, .row (bA B) 0 0 false, .row (bA C) 0 0 false]) (.ptr (H.length + 2) 0 0) (.agg (bA T)) = some (none, H ++ [.row (bA A) 0 0 false, .row (bA B) 0 0 false, .row (bA T) 0 0 false]) := by
  rw [st_m (S := C) (s := 0) (by simp)]; simp
set_option maxHeartbeats 4000000 in
theorem days_ac {r c n : Nat} (hs : Sd r c) (hn : r * c = n) (S Z : Nat → Bool) (hS : ∀ b, S b = true → b < n) (H : AH) (Q : AV → AH → Prop) (h : ∀ H', Ext H H' → Q (.agg (iA (day r c (opn n Z) S))) H') : AC Try.prog 57 [.agg (fl r c S Z)] H Q := by
  refine L_body 47 Try.func57 rfl rfl ?_
  have h25 := hs.le
  obtain ⟨I, hI, hz⟩ := zeroT_some zt87'
  obtain ⟨X, hX, hx⟩ := zeroT_some zt79'
  refine L_reg [1, 2] (fun K hK => ?_)
  simp [AV.isU, acells, hI, hz]
  apply hK; clear hK K
  refine L_reg [1, 2, 3] (fun K hK => ?_)
  simp [hI, hz]
  apply hK; clear hK K
  have h1 : (H ++ [AObj.row (fl r c S Z) 0 0 false, AObj.row (iA fun _ => 0) 0 0 false, AObj.row (iA fun _ => 0) 0 0 false])[H.length]? = some (.row (fl r c S Z) 0 0 false) := by simp
  have h2 : (H ++ [AObj.row (fl r c S Z) 0 0 false, AObj.row (iA fun _ => 0) 0 0 false, AObj.row (iA fun _ => 0) 0 0 false])[H.length + 1]? = some (.row (iA fun _ => 0) 0 0 false) := by simp
  have h3 : (H ++ [AObj.row (fl r c S Z) 0 0 false, AObj.row (iA fun _ => 0) 0 0 false, AObj.row (iA fun _ => 0) 0 0 false])[H.length + 2]? = some (.row (iA fun b => if b < 0 then -1 else 0) 0 0 false) := by
    simp only [List.getElem?_append_right (Nat.le_add_right _ _), Nat.add_sub_cancel_left]
    simp
  have hE : Ext H (H ++ [AObj.row (fl r c S Z) 0 0 false, AObj.row (iA fun _ => 0) 0 0 false, AObj.row (iA fun _ => 0) 0 0 false]) := .push _ _
  have hl : H.length + 3 ≤ (H ++ [AObj.row (fl r c S Z) 0 0 false, AObj.row (iA fun _ => 0) 0 0 false, AObj.row (iA fun _ => 0) 0 0 false]).length := by simp
  generalize H ++ [AObj.row (fl r c S Z) 0 0 false, AObj.row (iA fun _ => 0) 0 0 false, AObj.row (iA fun _ => 0) 0 0 false] = H1 at h1 h2 h3 hE hl ⊢
  refine L_reg [1, 2, 3, 11] (fun K hK => ?_)
  simp
  apply hK; clear hK K
  refine L_block (L_loopV [11] (fun q vs H' => ∃ (i s : Nat), q = 25 - i ∧ i ≤ 25 ∧ vs = [.int .i64 i] ∧ Ext H H' ∧ H'[H.length]? = some (.row (fl r c S Z) 0 0 false) ∧ H'[H.length + 1]? = some (.row (iA fun _ => 0) 0 0 false) ∧ H'[H.length + 2]? = some (.row (iA fun b => if b < i then -1 else 0) 0 s false) ∧ H.length + 3 ≤ H'.length) _ [.int .i64 (0 : Nat)] rfl ⟨0, 0, rfl, by omega, rfl, hE, h1, h2, h3, hl⟩ ?_)
  clear h1 h2 h3 hE hl H1
  rintro q _ H1 ⟨i, s, rfl, hi, rfl, hE, h1, h2, h3, hl⟩
  refine L_reg [1, 2, 3, 11, 12] (fun K hK => ?_)
  simp
  apply hK; clear hK K
  refine L_dec (i < 25) (by simp; omega) (fun hlt => ?_) (fun hge => L_exit ?_)
  · refine L_block ?_
    have hii : (i : Int) < 25 := by omega
    have hst := st_i (v := -1) h3 hlt
    have e : updI (fun b => if b < i then -1 else 0) i (-1) = fun b => if b < i + 1 then -1 else 0 := by
      funext b
      show (if b = i then (-1 : Int) else if b < i then -1 else 0) = if b < i + 1 then -1 else 0
      by_cases hb : b = i
      · rw [if_pos hb, if_pos (by omega)]
      · rw [if_neg hb]
        by_cases hb2 : b < i
        · rw [if_pos hb2, if_pos (by omega)]
        · rw [if_neg hb2, if_neg (by omega)]
    rw [e] at hst
    refine L_reg [1, 2, 3, 4, 11] (fun K hK => ?_)
    simp
    apply hK; clear hK K
    refine L_reg [1, 2, 3, 11] (fun K hK => ?_)
    simp [hii, hst]
    apply hK; clear hK K
    refine L_reg [1, 2, 3, 11] (fun K hK => ?_)
    simp [wrap_i64 (a := (i : Int) + 1) (by omega)]
    apply hK; clear hK K
    refine ⟨25 - (i + 1), [.int .i64 (i + 1 : Nat)], by omega, by simp, i + 1, min s i, rfl, by omega, rfl, hE.set _ (by omega), ?_, ?_, get_set h3, by simpa using hl⟩
    · rw [List.getElem?_set_ne (by omega)]; exact h1
    · rw [List.getElem?_set_ne (by omega)]; exact h2
  have e25 : i = 25 := by omega
  subst e25
  have e : iA (fun b => if b < 25 then -1 else 0) = iA (dl r c (opn n Z) S 0) := iA_ext fun b hb => by
    show _ = if none' b = true then _ else _
    rw [if_pos hb, if_neg (by simp [none'])]
  rw [e] at h3
  clear e hge
  have aF1 := ldn_F1 h1
  have aF := ldn_F h1
  refine L_regR mixed (fun K hK => ?_)
  have hfin : ∀ (p5 p6 p7 : Nat) (H9 : AH), p5 ≠ p6 → p5 ≠ p7 → p6 ≠ p7 → H1.length ≤ p5 → H1.length ≤ p6 → H1.length ≤ p7 → Ext H1 H9 → H9[p5]? = some (.row (bA none') 0 0 false) → H9[p6]? = some (.row (bA S) 0 0 false) → H9[p7]? = some (.row (bA (opn n Z)) 0 0 false) → K .normal [(1, .ptr H.length 0 0), (2, .ptr (H.length + 1) 0 0), (3, .ptr (H.length + 2) 0 0), (5, .ptr p5 0 0), (6, .ptr p6 0 0), (7, .ptr p7 0 0)] H9 := by
    intro p5 p6 p7 H9 n1 n2 n3 l5 l6 l7 hE9 h5 h6 h7
    apply hK; clear hK K
    replace h1 := hE9.row h1
    replace h2 := hE9.row h2
    replace h3 := hE9.row h3
    replace hE := hE.trans hE9
    clear hE9 aF1 aF
    obtain ⟨O, hO⟩ : ∃ O, opn n Z = O := ⟨_, rfl⟩
    rw [hO] at h h3 h7
    refine L_reg [1, 2, 3, 5, 6, 7, 8] (fun K hK => ?_)
    simp
    apply hK; clear hK K
    refine L_block (L_loopV [8] (fun q vs H' => ∃ (t s w5 w6 : Nat), q = n + 2 - t ∧ t ≤ n + 1 ∧ vs = [.int .i64 t] ∧ Ext H H' ∧ H'[H.length]? = some (.row (fl r c S Z) 0 0 false) ∧ H'[H.length + 1]? = some (.row (iA fun _ => 0) 0 0 false) ∧ H'[H.length + 2]? = some (.row (iA (dl r c O S t)) 0 s false) ∧ H'[p5]? = some (.row (bA (prv r c O S t)) 0 w5 false) ∧ H'[p6]? = some (.row (bA (D r c 2 O S t)) 0 w6 false) ∧ H'[p7]? = some (.row (bA O) 0 0 false)) _ [.int .i64 (0 : Nat)] rfl ⟨0, s, 0, 0, rfl, by omega, rfl, hE, h1, h2, h3, h5, h6, h7⟩ ?_)
    clear h1 h2 h3 h5 h6 h7 hE H9
    rintro q _ H9 ⟨t, s, w5, w6, rfl, htn, rfl, hE, h1, h2, h3, h5, h6, h7⟩
    have a5 := ldn_b h5
    have a6 := ldn_b h6
    refine L_reg [1, 2, 3, 5, 6, 7, 8, 24] (fun K hK => ?_)
    simp [a5, a6, b_neB]
    apply hK; clear hK K
    have hS' : ∀ b, S b = true → b < r * c := by rw [hn]; exact hS
    refine L_split rfl (fun hx => ?_) (fun hx => L_exit ?_)
    · have hx : ¬ ((List.range 25).all fun i => D r c 2 O S t i == prv r c O S t i) = true := by simpa using hx
      have htn2 : t ≠ n + 1 := by
        intro h0
        apply hx
        rw [all_eq]
        intro b _
        rw [h0]
        show D r c 2 O S (n + 1) b = D r c 2 O S n b
        rw [← hn, D_fix hS']
      obtain ⟨L, hL⟩ : ∃ L, num (sub' (D r c 2 O S t) (prv r c O S t)) = L := ⟨_, rfl⟩
      have hLl : L.length ≤ 25 := by rw [← hL]; exact num_len _
      refine L_block ?_
      refine L_reg [1, 2, 3, 5, 6, 7, 8, 30, 31, 32] (fun K hK => ?_)
      simp [okFn_low, a5, a6]
      refine without_q _ _ _ _ ?_
      simp [okFn_low]
      refine list_ac _ _ _ (fun v H2 hN hE2 => ?_)
      have hO := hN.2
      clear hN
      rw [hL] at hO
      have hv := ownF_ls hO
      simp [ls_len hv]
      apply hK; clear hK K
      have hl9 : H.length + 3 ≤ H9.length := by
        have := (List.getElem?_eq_some_iff.1 h3).1
        omega
      have h25' : r * c ≤ 25 := h25
      replace h1 := hE2.row h1
      replace h2 := hE2.row h2
      replace h3 := hE2.row h3
      replace h5 := hE2.row h5
      replace h6 := hE2.row h6
      replace h7 := hE2.row h7
      replace hE := hE.trans hE2
      obtain ⟨N, hN⟩ : ∃ N, H9.length = N := ⟨_, rfl⟩
      rw [hN] at hO hl9
      clear hE2 a5 a6 hx hv
      refine L_block (L_loopV [32] (fun q vs H' => ∃ (j s : Nat), q = L.length - j ∧ j ≤ L.length ∧ vs = [.int .i64 j] ∧ Ext H H' ∧ OwnF N H' v (L.map (.int .i64)) ∧ H'[H.length]? = some (.row (fl r c S Z) 0 0 false) ∧ H'[H.length + 1]? = some (.row (iA fun _ => 0) 0 0 false) ∧ H'[H.length + 2]? = some (.row (iA (dj r c O S t j)) 0 s false) ∧ H'[p5]? = some (.row (bA (prv r c O S t)) 0 w5 false) ∧ H'[p6]? = some (.row (bA (D r c 2 O S t)) 0 w6 false) ∧ H'[p7]? = some (.row (bA O) 0 0 false)) _ [.int .i64 (0 : Nat)] rfl ⟨0, s, rfl, by omega, rfl, hE, hO, h1, h2, by rw [dj_zero]; exact h3, h5, h6, h7⟩ ?_)
      clear h1 h2 h3 h5 h6 h7 hE hO H2
      rintro q _ H2 ⟨j, s, rfl, hj, rfl, hE, hO, h1, h2, h3, h5, h6, h7⟩
      have hv := ownF_ls hO
      refine L_reg [1, 2, 3, 5, 6, 7, 8, 30, 31, 32, 33] (fun K hK => ?_)
      simp
      apply hK; clear hK K
      refine L_dec (j < L.length) (by simp) (fun hlt => ?_) (fun hge => L_exit ?_)
      · refine L_block ?_
        obtain ⟨rz, pz, vz, hix, hldz⟩ := ls_ix hv hlt
        obtain ⟨b, hb, hb25, hSb⟩ := num_at (S := sub' (D r c 2 O S t) (prv r c O S t)) (i := j) (by rw [hL]; exact hlt)
        have hst0 := dj_succ (r := r) (c := c) (O := O) (S := S) (t := t) (j := j) (b := b) (by rw [hL]; exact hlt) hb (by
          simp only [sub', Bool.and_eq_true, Bool.not_eq_true'] at hSb
          exact hSb.2)
        rw [hL] at hb
        rw [hb] at hldz
        have hbi : (b : Int) < 25 := by omega
        have hst := st_i (v := (t : Nat)) h3 hb25
        rw [hst0] at hst
        refine L_reg [1, 2, 3, 5, 6, 7, 8, 10, 30, 31, 32] (fun K hK => ?_)
        simp [hix, hldz]
        apply hK; clear hK K
        refine L_reg [1, 2, 3, 5, 6, 7, 8, 30, 31, 32] (fun K hK => ?_)
        simp [hbi, hst]
        apply hK; clear hK K
        refine L_reg [1, 2, 3, 5, 6, 7, 8, 30, 31, 32] (fun K hK => ?_)
        simp [wrap_i64 (a := (j : Int) + 1) (by omega)]
        apply hK; clear hK K
        refine ⟨L.length - (j + 1), [.int .i64 (j + 1 : Nat)], by omega, by simp, j + 1, min s b, rfl, by omega, rfl, hE.set _ (by omega), ?_, ?_, ?_, get_set h3, ?_, ?_, ?_⟩
        · exact ownF_keep hO fun i o hi ho => by rw [List.getElem?_set_ne (by omega)]; exact ho
        · rw [List.getElem?_set_ne (by omega)]; exact h1
        · rw [List.getElem?_set_ne (by omega)]; exact h2
        · rw [List.getElem?_set_ne (by omega)]; exact h5
        · rw [List.getElem?_set_ne (by omega)]; exact h6
        · rw [List.getElem?_set_ne (by omega)]; exact h7
      · have hjl : j = (num (sub' (D r c 2 O S t) (prv r c O S t))).length := by rw [hL]; omega
        rw [hjl, dj_end (by omega)] at h3
        have a0 := ldn_F0 h1
        have a6 := ldn_b h6
        have a7 := ldn_b h7
        have hst5 := st_m (T := D r c 2 O S t) h5
        have h6' : (H2.set p5 (.row (bA (D r c 2 O S t)) 0 0 false))[p6]? = some (.row (bA (D r c 2 O S t)) 0 w6 false) := by rw [List.getElem?_set_ne n1]; exact h6
        have hst6 := st_m (T := D r c 2 O S (t + 1)) h6'
        refine L_regZ mixed [p5, p6] [1, 0, 0, 0, 0, 0] [] [1, 2, 3, 5, 6, 7, 8] (by kernel_rfl) (fun K hK => ?_)
        simp [okFn_low, a0, a6, a7]
        refine exX_mk (fun Q hQ => grown_q hs hn 2 _ _ _ Q hQ) (.refl _) ?_
        rw [← D_succ]
        simp [hst5, hst6]
        apply hK; clear hK K
        refine L_reg [1, 2, 3, 5, 6, 7, 8] (fun K hK => ?_)
        simp [wrap_i64 (a := (t : Int) + 1) (by omega)]
        apply hK; clear hK K
        have hlo : H.length + 3 ≤ H1.length := hl
        refine ⟨n + 2 - (t + 1), [.int .i64 (t + 1 : Nat)], by omega, by simp, t + 1, s, 0, 0, rfl, by omega, rfl, (hE.set _ (by omega)).set _ (by omega), ?_, ?_, ?_, ?_, ?_, ?_⟩
        · rw [List.getElem?_set_ne (by omega), List.getElem?_set_ne (by omega)]; exact h1
        · rw [List.getElem?_set_ne (by omega), List.getElem?_set_ne (by omega)]; exact h2
        · rw [List.getElem?_set_ne (by omega), List.getElem?_set_ne (by omega)]; exact h3
        · rw [List.getElem?_set_ne (by omega)]; exact get_set h5
        · exact get_set h6'
        · rw [List.getElem?_set_ne (by omega), List.getElem?_set_ne (by omega)]; exact h7
    · have hx : ((List.range 25).all fun i => D r c 2 O S t i == prv r c O S t i) = true := by simpa using hx
      have he : D r c 2 O S t = prv r c O S t := by
        funext b
        by_cases hb : b < 25
        · exact all_eq.1 hx b hb
        · have f : D r c 2 O S t b = false := by
            cases hd : D r c 2 O S t b with
            | false => rfl
            | true => have := D_sup hS' t b hd; omega
          rw [f]
          cases hp : prv r c O S t b with
          | false => rfl
          | true => rw [prv_sub hp] at f; cases f
      rw [iA_ext (h := day r c O S) (fun b _ => dl_end hS' h25 he b)] at h3
      have a3 := ldn_i h3
      have hst := st_I (h := day r c O S) h2
      refine L_reg [2] (fun K hK => ?_)
      simp [a3, hst]
      apply hK; clear hK K
      refine L_ret ⟨.inr rfl, _, res_cell rfl ?_, h _ (hE.set _ (by omega))⟩
      simp [ldn_i (get_set h2)]
  have ex : ∀ l : AH, Ext H1 (H1 ++ l) := fun l => .push _ _
  refine AWR_pair (x := 4) (y := 5) (ord := [0, 1, 2, 3, 5, 4, 6, 7, 8, 9, 10]) (by kernel_rfl) ?_ ?_
  · refine AWR_pair (x := 4) (y := 6) (ord := [0, 1, 2, 3, 6, 4, 5, 7, 8, 9, 10]) (by kernel_rfl) ?_ ?_
    · refine AWR_pair (x := 4) (y := 7) (ord := [0, 1, 2, 3, 7, 4, 5, 6, 8, 9, 10]) (by kernel_rfl) ?_ ?_
      · refine AWR_pair (x := 5) (y := 6) (ord := [0, 1, 2, 3, 4, 6, 5, 7, 8, 9, 10]) (by kernel_rfl) ?_ ?_
        · refine AWR_pair (x := 5) (y := 7) (ord := [0, 1, 2, 3, 4, 7, 5, 6, 8, 9, 10]) (by kernel_rfl) ?_ ?_
          · refine AWR_pair (x := 6) (y := 7) (ord := [0, 1, 2, 3, 4, 5, 7, 6, 8, 9, 10]) (by kernel_rfl) ?_ ?_
            · refine AWR_U [1, 2, 3, 5, 6, 7] [false, false, true, false, false, false, false, false, false] rfl (by kernel_rfl) ?_
              simp [addE, okFn_low, aF1, aF, bd79]
              refine exX_mk (fun Q hQ => open_q hs hn S Z _ Q hQ) (by first | exact .refl _ | exact ex _) ?_
              simp [hX, hx, pt0, pt1, pt2, ex]
              refine hfin H1.length (H1.length + 1) (H1.length + 2) _ (by omega) (by omega) (by omega) (by omega) (by omega) (by omega) (.push _ _) ?_ ?_ ?_ <;> simp
            · refine AWR_U [1, 2, 3, 5, 6, 7] [false, false, true, false, false, false, false, false, false] rfl (by kernel_rfl) ?_
              simp [addE, permL, okFn_low, aF1, aF, bd79]
              refine exX_mk (fun Q hQ => open_q hs hn S Z _ Q hQ) (by first | exact .refl _ | exact ex _) ?_
              simp [hX, hx, pt0, pt1, pt2, ex]
              refine hfin H1.length (H1.length + 2) (H1.length + 1) _ (by omega) (by omega) (by omega) (by omega) (by omega) (by omega) (.push _ _) ?_ ?_ ?_ <;> simp
          · refine AWR_U [1, 2, 3, 5, 6, 7] [false, false, true, false, false, false, false, false, false] rfl (by kernel_rfl) ?_
            simp [addE, permL, okFn_low, aF1, aF, bd79]
            refine exX_mk (fun Q hQ => open_q hs hn S Z _ Q hQ) (by first | exact .refl _ | exact ex _) ?_
            simp [hX, hx, pt0, pt1, pt2, ex]
            refine hfin (H1.length + 1) (H1.length + 2) H1.length _ (by omega) (by omega) (by omega) (by omega) (by omega) (by omega) (.push _ _) ?_ ?_ ?_ <;> simp
        · refine AWR_pair (x := 5) (y := 7) (ord := [0, 1, 2, 3, 4, 7, 5, 6, 8, 9, 10]) (by kernel_rfl) ?_ ?_
          · refine AWR_pair (x := 6) (y := 7) (ord := [0, 1, 2, 3, 4, 5, 7, 6, 8, 9, 10]) (by kernel_rfl) ?_ ?_
            · refine AWR_U [1, 2, 3, 5, 6, 7] [false, false, true, false, false, false, false, false, false] rfl (by kernel_rfl) ?_
              simp [addE, permL, okFn_low, aF1, aF, bd79]
              refine exX_mk (fun Q hQ => open_q hs hn S Z _ Q hQ) (by first | exact .refl _ | exact ex _) ?_
              simp [hX, hx, pt0, pt1, pt2, ex]
              refine hfin (H1.length + 1) H1.length (H1.length + 2) _ (by omega) (by omega) (by omega) (by omega) (by omega) (by omega) (.push _ _) ?_ ?_ ?_ <;> simp
            · refine AWR_U [1, 2, 3, 5, 6, 7] [false, false, true, false, false, false, false, false, false] rfl (by kernel_rfl) ?_
              simp [addE, permL, okFn_low, aF1, aF, bd79]
              refine exX_mk (fun Q hQ => open_q hs hn S Z _ Q hQ) (by first | exact .refl _ | exact ex _) ?_
              simp [hX, hx, pt0, pt1, pt2, ex]
              refine hfin (H1.length + 2) H1.length (H1.length + 1) _ (by omega) (by omega) (by omega) (by omega) (by omega) (by omega) (.push _ _) ?_ ?_ ?_ <;> simp
          · refine AWR_U [1, 2, 3, 5, 6, 7] [false, false, true, false, false, false, false, false, false] rfl (by kernel_rfl) ?_
            simp [addE, permL, okFn_low, aF1, aF, bd79]
            refine exX_mk (fun Q hQ => open_q hs hn S Z _ Q hQ) (by first | exact .refl _ | exact ex _) ?_
            simp [hX, hx, pt0, pt1, pt2, ex]
            refine hfin (H1.length + 2) (H1.length + 1) H1.length _ (by omega) (by omega) (by omega) (by omega) (by omega) (by omega) (.push _ _) ?_ ?_ ?_ <;> simp
      · refine AWR_pair (x := 6) (y := 7) (ord := [0, 1, 2, 3, 4, 5, 7, 6, 8, 9, 10]) (by kernel_rfl) ?_ ?_
        · refine AWR_U [1, 2, 3, 5, 6, 7] [false, false, true, true, false, false, false, false, false] rfl (by kernel_rfl) ?_
          simp [addE, permL, okFn_low, aF1, aF, hX, hx, bd79, ex]
          refine exX_mk (fun Q hQ => open_q hs hn S Z _ Q hQ) (by first | exact .refl _ | exact ex _) ?_
          simp [hX, hx, pt0, pt1, pt2, ex]
          refine hfin (H1.length + 1) (H1.length + 2) H1.length _ (by omega) (by omega) (by omega) (by omega) (by omega) (by omega) (.push _ _) ?_ ?_ ?_ <;> simp
        · refine AWR_U [1, 2, 3, 5, 6, 7] [false, false, true, true, false, false, false, false, false] rfl (by kernel_rfl) ?_
          simp [addE, permL, okFn_low, aF1, aF, hX, hx, bd79, ex]
          refine exX_mk (fun Q hQ => open_q hs hn S Z _ Q hQ) (by first | exact .refl _ | exact ex _) ?_
          simp [hX, hx, pt0, pt1, pt2, ex]
          refine hfin (H1.length + 2) (H1.length + 1) H1.length _ (by omega) (by omega) (by omega) (by omega) (by omega) (by omega) (.push _ _) ?_ ?_ ?_ <;> simp
    · refine AWR_pair (x := 4) (y := 7) (ord := [0, 1, 2, 3, 7, 4, 5, 6, 8, 9, 10]) (by kernel_rfl) ?_ ?_
      · refine AWR_pair (x := 5) (y := 7) (ord := [0, 1, 2, 3, 4, 7, 5, 6, 8, 9, 10]) (by kernel_rfl) ?_ ?_
        · refine AWR_pair (x := 6) (y := 7) (ord := [0, 1, 2, 3, 4, 5, 7, 6, 8, 9, 10]) (by kernel_rfl) ?_ ?_
          · refine AWR_U [1, 2, 3, 5, 6, 7] [false, false, true, true, false, false, false, false, false] rfl (by kernel_rfl) ?_
            simp [addE, permL, okFn_low, aF1, aF, hX, hx, bd79, ex]
            refine exX_mk (fun Q hQ => open_q hs hn S Z _ Q hQ) (by first | exact .refl _ | exact ex _) ?_
            simp [hX, hx, pt0, pt1, pt2, ex]
            refine hfin (H1.length + 1) H1.length (H1.length + 2) _ (by omega) (by omega) (by omega) (by omega) (by omega) (by omega) (.push _ _) ?_ ?_ ?_ <;> simp
          · refine AWR_U [1, 2, 3, 5, 6, 7] [false, false, true, true, false, false, false, false, false] rfl (by kernel_rfl) ?_
            simp [addE, permL, okFn_low, aF1, aF, hX, hx, bd79, ex]
            refine exX_mk (fun Q hQ => open_q hs hn S Z _ Q hQ) (by first | exact .refl _ | exact ex _) ?_
            simp [hX, hx, pt0, pt1, pt2, ex]
            refine hfin (H1.length + 2) H1.length (H1.length + 1) _ (by omega) (by omega) (by omega) (by omega) (by omega) (by omega) (.push _ _) ?_ ?_ ?_ <;> simp
        · refine AWR_U [1, 2, 3, 5, 6, 7] [false, false, true, true, false, false, false, false, false] rfl (by kernel_rfl) ?_
          simp [addE, permL, okFn_low, aF1, aF, hX, hx, bd79, ex]
          refine exX_mk (fun Q hQ => open_q hs hn S Z _ Q hQ) (by first | exact .refl _ | exact ex _) ?_
          simp [hX, hx, pt0, pt1, pt2, ex]
          refine hfin (H1.length + 2) H1.length (H1.length + 1) _ (by omega) (by omega) (by omega) (by omega) (by omega) (by omega) (.push _ _) ?_ ?_ ?_ <;> simp
      · refine AWR_U [1, 2, 3, 5, 6, 7] [false, false, true, true, false, false, false, false, false] rfl (by kernel_rfl) ?_
        simp [addE, permL, okFn_low, aF1, aF, hX, hx, bd79, ex]
        refine exX_mk (fun Q hQ => open_q hs hn S Z _ Q hQ) (by first | exact .refl _ | exact ex _) ?_
        simp [hX, hx, pt0, pt1, pt2, ex]
        refine hfin (H1.length + 2) (H1.length + 1) H1.length _ (by omega) (by omega) (by omega) (by omega) (by omega) (by omega) (.push _ _) ?_ ?_ ?_ <;> simp
  · refine AWR_pair (x := 4) (y := 6) (ord := [0, 1, 2, 3, 6, 4, 5, 7, 8, 9, 10]) (by kernel_rfl) ?_ ?_
    · refine AWR_pair (x := 4) (y := 7) (ord := [0, 1, 2, 3, 7, 4, 5, 6, 8, 9, 10]) (by kernel_rfl) ?_ ?_
      · refine AWR_pair (x := 5) (y := 6) (ord := [0, 1, 2, 3, 4, 6, 5, 7, 8, 9, 10]) (by kernel_rfl) ?_ ?_
        · refine AWR_pair (x := 5) (y := 7) (ord := [0, 1, 2, 3, 4, 7, 5, 6, 8, 9, 10]) (by kernel_rfl) ?_ ?_
          · refine AWR_pair (x := 6) (y := 7) (ord := [0, 1, 2, 3, 4, 5, 7, 6, 8, 9, 10]) (by kernel_rfl) ?_ ?_
            · refine AWR_U [1, 2, 3, 5, 6, 7] [false, false, true, true, false, false, false, false, false] rfl (by kernel_rfl) ?_
              simp [addE, permL, okFn_low, aF1, aF, hX, hx, bd79, ex]
              refine exX_mk (fun Q hQ => open_q hs hn S Z _ Q hQ) (by first | exact .refl _ | exact ex _) ?_
              simp [hX, hx, pt0, pt1, pt2, ex]
              refine hfin H1.length (H1.length + 1) (H1.length + 2) _ (by omega) (by omega) (by omega) (by omega) (by omega) (by omega) (.push _ _) ?_ ?_ ?_ <;> simp
            · refine AWR_U [1, 2, 3, 5, 6, 7] [false, false, true, true, false, false, false, false, false] rfl (by kernel_rfl) ?_
              simp [addE, permL, okFn_low, aF1, aF, hX, hx, bd79, ex]
              refine exX_mk (fun Q hQ => open_q hs hn S Z _ Q hQ) (by first | exact .refl _ | exact ex _) ?_
              simp [hX, hx, pt0, pt1, pt2, ex]
              refine hfin H1.length (H1.length + 2) (H1.length + 1) _ (by omega) (by omega) (by omega) (by omega) (by omega) (by omega) (.push _ _) ?_ ?_ ?_ <;> simp
          · refine AWR_U [1, 2, 3, 5, 6, 7] [false, false, true, true, false, false, false, false, false] rfl (by kernel_rfl) ?_
            simp [addE, permL, okFn_low, aF1, aF, hX, hx, bd79, ex]
            refine exX_mk (fun Q hQ => open_q hs hn S Z _ Q hQ) (by first | exact .refl _ | exact ex _) ?_
            simp [hX, hx, pt0, pt1, pt2, ex]
            refine hfin H1.length (H1.length + 2) (H1.length + 1) _ (by omega) (by omega) (by omega) (by omega) (by omega) (by omega) (.push _ _) ?_ ?_ ?_ <;> simp
        · refine AWR_pair (x := 5) (y := 7) (ord := [0, 1, 2, 3, 4, 7, 5, 6, 8, 9, 10]) (by kernel_rfl) ?_ ?_
          · refine AWR_pair (x := 6) (y := 7) (ord := [0, 1, 2, 3, 4, 5, 7, 6, 8, 9, 10]) (by kernel_rfl) ?_ ?_
            · refine AWR_U [1, 2, 3, 5, 6, 7] [false, false, true, true, false, false, false, false, false] rfl (by kernel_rfl) ?_
              simp [addE, permL, okFn_low, aF1, aF, hX, hx, bd79, ex]
              refine exX_mk (fun Q hQ => open_q hs hn S Z _ Q hQ) (by first | exact .refl _ | exact ex _) ?_
              simp [hX, hx, pt0, pt1, pt2, ex]
              refine hfin H1.length (H1.length + 1) (H1.length + 2) _ (by omega) (by omega) (by omega) (by omega) (by omega) (by omega) (.push _ _) ?_ ?_ ?_ <;> simp
            · refine AWR_U [1, 2, 3, 5, 6, 7] [false, false, true, true, false, false, false, false, false] rfl (by kernel_rfl) ?_
              simp [addE, permL, okFn_low, aF1, aF, hX, hx, bd79, ex]
              refine exX_mk (fun Q hQ => open_q hs hn S Z _ Q hQ) (by first | exact .refl _ | exact ex _) ?_
              simp [pt0, pt1, pt2, ex]
              refine hfin H1.length (H1.length + 1) (H1.length + 2) _ (by omega) (by omega) (by omega) (by omega) (by omega) (by omega) (.push _ _) ?_ ?_ ?_ <;> simp
          · refine AWR_U [1, 2, 3, 5, 6, 7] [false, false, true, true, false, false, false, false, false] rfl (by kernel_rfl) ?_
            simp [addE, permL, okFn_low, aF1, aF, hX, hx, bd79, ex]
            refine exX_mk (fun Q hQ => open_q hs hn S Z _ Q hQ) (by first | exact .refl _ | exact ex _) ?_
            simp [pt0, pt1, pt2, ex]
            refine hfin H1.length (H1.length + 2) (H1.length + 1) _ (by omega) (by omega) (by omega) (by omega) (by omega) (by omega) (.push _ _) ?_ ?_ ?_ <;> simp
      · refine AWR_pair (x := 6) (y := 7) (ord := [0, 1, 2, 3, 4, 5, 7, 6, 8, 9, 10]) (by kernel_rfl) ?_ ?_
        · refine AWR_U [1, 2, 3, 5, 6, 7] [false, false, true, true, false, false, false, false, false] rfl (by kernel_rfl) ?_
          simp [addE, permL, okFn_low, aF1, aF, hX, hx, bd79, ex]
          refine exX_mk (fun Q hQ => open_q hs hn S Z _ Q hQ) (by first | exact .refl _ | exact ex _) ?_
          simp [hX, hx, pt0, pt1, pt2, ex]
          refine hfin (H1.length + 1) (H1.length + 2) H1.length _ (by omega) (by omega) (by omega) (by omega) (by omega) (by omega) (.push _ _) ?_ ?_ ?_ <;> simp
        · refine AWR_U [1, 2, 3, 5, 6, 7] [false, false, true, true, false, false, false, false, false] rfl (by kernel_rfl) ?_
          simp [addE, permL, okFn_low, aF1, aF, hX, hx, bd79, ex]
          refine exX_mk (fun Q hQ => open_q hs hn S Z _ Q hQ) (by first | exact .refl _ | exact ex _) ?_
          simp [pt0, pt1, pt2, ex]
          refine hfin (H1.length + 1) (H1.length + 2) H1.length _ (by omega) (by omega) (by omega) (by omega) (by omega) (by omega) (.push _ _) ?_ ?_ ?_ <;> simp
    · refine AWR_pair (x := 4) (y := 7) (ord := [0, 1, 2, 3, 7, 4, 5, 6, 8, 9, 10]) (by kernel_rfl) ?_ ?_
      · refine AWR_pair (x := 5) (y := 7) (ord := [0, 1, 2, 3, 4, 7, 5, 6, 8, 9, 10]) (by kernel_rfl) ?_ ?_
        · refine AWR_pair (x := 6) (y := 7) (ord := [0, 1, 2, 3, 4, 5, 7, 6, 8, 9, 10]) (by kernel_rfl) ?_ ?_
          · refine AWR_U [1, 2, 3, 5, 6, 7] [false, false, true, true, false, false, false, false, false] rfl (by kernel_rfl) ?_
            simp [addE, permL, okFn_low, aF1, aF, hX, hx, bd79, ex]
            refine exX_mk (fun Q hQ => open_q hs hn S Z _ Q hQ) (by first | exact .refl _ | exact ex _) ?_
            simp [hX, hx, pt0, pt1, pt2, ex]
            refine hfin (H1.length + 1) H1.length (H1.length + 2) _ (by omega) (by omega) (by omega) (by omega) (by omega) (by omega) (.push _ _) ?_ ?_ ?_ <;> simp
          · refine AWR_U [1, 2, 3, 5, 6, 7] [false, false, true, true, false, false, false, false, false] rfl (by kernel_rfl) ?_
            simp [addE, permL, okFn_low, aF1, aF, hX, hx, bd79, ex]
            refine exX_mk (fun Q hQ => open_q hs hn S Z _ Q hQ) (by first | exact .refl _ | exact ex _) ?_
            simp [pt0, pt1, pt2, ex]
            refine hfin (H1.length + 1) H1.length (H1.length + 2) _ (by omega) (by omega) (by omega) (by omega) (by omega) (by omega) (.push _ _) ?_ ?_ ?_ <;> simp
        · refine AWR_U [1, 2, 3, 5, 6, 7] [false, false, true, true, false, false, false, false, false] rfl (by kernel_rfl) ?_
          simp [addE, permL, okFn_low, aF1, aF, hX, hx, bd79, ex]
          refine exX_mk (fun Q hQ => open_q hs hn S Z _ Q hQ) (by first | exact .refl _ | exact ex _) ?_
          simp [pt0, pt1, pt2, ex]
          refine hfin (H1.length + 2) H1.length (H1.length + 1) _ (by omega) (by omega) (by omega) (by omega) (by omega) (by omega) (.push _ _) ?_ ?_ ?_ <;> simp
      · refine AWR_U [1, 2, 3, 5, 6, 7] [false, false, true, true, false, false, false, false, false] rfl (by kernel_rfl) ?_
        simp [addE, permL, okFn_low, aF1, aF, hX, hx, bd79, ex]
        refine exX_mk (fun Q hQ => open_q hs hn S Z _ Q hQ) (by first | exact .refl _ | exact ex _) ?_
        simp [pt0, pt1, pt2, ex]
        refine hfin (H1.length + 2) (H1.length + 1) H1.length _ (by omega) (by omega) (by omega) (by omega) (by omega) (by omega) (.push _ _) ?_ ?_ ?_ <;> simp
end Go.Proofs.Ytfbpgnjeafadmaa.Fl

/- The law's bits and neighbours. -/
namespace Go.Proofs.Ytfbpgnjeafadmaa.Fl
open Go Go.Proofs.Ytfbpgnjeafadmaa Go.Proofs.Ytfbpgnjeafadmaa.AX
set_option maxRecDepth 100000

theorem wrap_u32 {a : Int} (h : 0 ≤ a ∧ a < 4294967296) : IntKind.u32.wrap a = a := by
  simp [IntKind.wrap, IntKind.bits, IntKind.signed]
  omega
theorem wrapN32 {n : Nat} (h : n < 4294967296) : IntKind.u32.wrap (n : Int) = n := wrap_u32 ⟨by omega, by omega⟩
section
variable {P : Program} {t : TypeId} {l : Bool} {k' : IntKind}
theorem n_and32 (x y : Nat) (hx : x < 4294967296) (hy : y < 4294967296) : binV P .and t l (.int .u32 (x : Int)) (.int .u32 (y : Int)) = some (.int .u32 ((x &&& y : Nat) : Int)) := by
  rw [b_and]
  have h1 : (BitVec.ofInt IntKind.u32.bits (x : Int) &&& BitVec.ofInt IntKind.u32.bits (y : Int)).toNat = x &&& y := by
    show (BitVec.ofInt 32 (x : Int) &&& BitVec.ofInt 32 (y : Int)).toNat = x &&& y
    rw [ofInt_nat, ofInt_nat, BitVec.toNat_and, BitVec.toNat_ofNat, BitVec.toNat_ofNat, Nat.mod_eq_of_lt hx, Nat.mod_eq_of_lt hy]
  rw [h1, wrapN32 (Nat.and_lt_two_pow x (n := 32) hy)]
theorem n_or32 (x y : Nat) (hx : x < 4294967296) (hy : y < 4294967296) : binV P .or t l (.int .u32 (x : Int)) (.int .u32 (y : Int)) = some (.int .u32 ((x ||| y : Nat) : Int)) := by
  rw [b_or]
  have h1 : (BitVec.ofInt IntKind.u32.bits (x : Int) ||| BitVec.ofInt IntKind.u32.bits (y : Int)).toNat = x ||| y := by
    show (BitVec.ofInt 32 (x : Int) ||| BitVec.ofInt 32 (y : Int)).toNat = x ||| y
    rw [ofInt_nat, ofInt_nat, BitVec.toNat_or, BitVec.toNat_ofNat, BitVec.toNat_ofNat, Nat.mod_eq_of_lt hx, Nat.mod_eq_of_lt hy]
  rw [h1, wrapN32 (Nat.or_lt_two_pow (n := 32) hx hy)]
theorem n_shl32 (b : Nat) (hb : b < 32) : binV P .shl t l (.int .u32 1) (.int k' (b : Int)) = some (.int .u32 ((1 <<< b : Nat) : Int)) := by
  rw [b_shl (Int.natCast_nonneg b)]
  have h1 : b ≤ IntKind.u32.bits := Nat.le_of_lt hb
  have e : ((2 : Int) ^ b) = ((2 ^ b : Nat) : Int) := by simp
  rw [Int.toNat_natCast, Nat.min_eq_left h1, Int.one_mul, e, wrapN32 (Nat.lt_of_lt_of_le (Nat.pow_lt_pow_right (by decide) hb) (by decide)), Nat.shiftLeft_eq, Nat.one_mul]
theorem bit32 (s b : Nat) (hs : s < 4294967296) : binV P .and t l (.int .u32 ((s : Int) >>> b)) (.int .u32 1) = some (.int .u32 (b1 (s.testBit b) : Nat)) := by
  have h1 : s >>> b < 4294967296 := Nat.lt_of_le_of_lt (by rw [Nat.shiftRight_eq_div_pow]; exact Nat.div_le_self _ _) hs
  have := n_and32 (P := P) (t := t) (l := l) (s >>> b) 1 h1 (by decide)
  have e : ((s : Int) >>> b) = ((s >>> b : Nat) : Int) := rfl
  rw [e]
  rw [show ((1 : Nat) : Int) = 1 from rfl] at this
  rw [this, Nat.and_one_is_mod, Nat.testBit, Nat.and_comm, Nat.and_one_is_mod]
  rcases Nat.mod_two_eq_zero_or_one (s >>> b) with h | h <;> simp [h, b1]
end
def tb (m : Nat) : Nat → Bool := fun b => m.testBit b
theorem bits_ac (s : Nat) (hs : s < 4294967296) (H : AH) (Q : AV → AH → Prop) (h : ∀ v' H', OwnN H.length H' v' (num (tb s)) → Ext H H' → Q v' H') : AC Try.prog 43 [.int .u32 s] H Q := by
  refine L_body 19 Try.func43 rfl rfl ?_
  refine L_reg [0] (fun K hK => ?_)
  simp
  apply hK; clear hK K
  refine L_reg [0, 3] (fun K hK => ?_)
  simp
  apply hK; clear hK K
  refine L_reg [0, 3, 5] (fun K hK => ?_)
  simp
  apply hK; clear hK K
  refine L_block (L_loopV [3, 5] (fun q vs H' => ∃ (i : Nat) (u : AV), q = 25 - i ∧ i ≤ 25 ∧ vs = [u, .int .i64 i] ∧ Ext H H' ∧ OwnN H.length H' u (numT i (tb s))) _ [.slice none 0 0 0 1 false, .int .i64 (0 : Nat)] rfl ⟨0, _, rfl, by omega, rfl, .refl _, fun _ => rfl, OwnF.nil _ _⟩ ?_)
  rintro q _ H1 ⟨i, u, rfl, hi, rfl, hE, hN, hO⟩
  refine L_reg [0, 3, 5, 6] (fun K hK => ?_)
  simp
  apply hK; clear hK K
  refine L_dec (i < 25) (by simp; omega) (fun hlt => ?_) (fun hge => L_exit ?_)
  · refine L_block ?_
    have hsu := numT_succ i (tb s)
    have hll : (numT i (tb s)).length ≤ 25 := by
      unfold numT
      rw [List.length_map]
      exact Nat.le_trans (List.length_filter_le ..) (by simp; omega)
    refine L_reg [0, 3, 4, 5] (fun K hK => ?_)
    simp
    apply hK; clear hK K
    obtain ⟨b, hb⟩ : ∃ b, s.testBit i = b := ⟨_, rfl⟩
    have htb : tb s i = b := hb
    have h32 := bit32 (P := Try.prog) (t := 53) (l := (litOp (.tmp 10) || litOp (.const (.int .u32 1)))) s i hs
    rw [hb] at h32
    refine L_reg [0, 3, 4, 5, 12] (fun K hK => ?_)
    simp [n_shr' (k := .u32) s i (by simp [IntKind.bits]; omega), bit32 s i hs, hb]
    apply hK; clear hK K
    cases b with
    | true =>
      rw [htb, if_pos rfl] at hsu
      obtain ⟨u', H3, happ, hO3, hE3⟩ := ownF_append (P := Try.prog) hE el22 el22 (x := .int .i64 i) (m := 1) hO rfl (by simp; omega)
      refine L_true (by simp [b1]) ?_
      refine L_reg [0, 3, 5] (fun K hK => ?_)
      simp [happ]
      apply hK; clear hK K
      refine L_reg [0, 3, 5] (fun K hK => ?_)
      simp [wrap_i64 (a := (i : Int) + 1) (by omega)]
      apply hK; clear hK K
      refine ⟨25 - (i + 1), [u', .int .i64 (i + 1 : Nat)], by omega, by simp, i + 1, u', rfl, by omega, rfl, hE3, fun h0 => ?_, ?_⟩
      · rw [hsu] at h0; simp at h0
      · rw [hsu]
        simpa using hO3
    | false =>
      rw [htb, if_neg (by decide), List.append_nil] at hsu
      refine L_false (by simp [b1]) ?_
      refine L_reg [0, 3, 5] (fun K hK => ?_)
      simp [wrap_i64 (a := (i : Int) + 1) (by omega)]
      apply hK; clear hK K
      exact ⟨25 - (i + 1), [u, .int .i64 (i + 1 : Nat)], by omega, by simp, i + 1, u, rfl, by omega, rfl, hE, fun h0 => hN (by rw [← hsu]; exact h0), by rw [hsu]; exact hO⟩
  · obtain rfl : i = 25 := by omega
    rw [num_all] at hO hN
    refine L_reg [2] (fun K hK => ?_)
    simp
    apply hK; clear hK K
    exact L_ret ⟨.inr rfl, _, rfl, h _ _ ⟨hN, hO⟩ hE⟩
theorem bd111 (a b : Int) : aBuilt Try.prog 111 [(0, .int .i64 a), (1, .int .i64 b)] = some [.int .i64 a, .int .i64 b] := by kernel_rfl
theorem new111 (H : AH) (a b : Int) : storeV Try.prog 111 (H ++ [AObj.row [.int .i64 0, .int .i64 0] 0 0 false]) (.ptr H.length 0 0) (.agg [.int .i64 a, .int .i64 b]) = some (none, H ++ [AObj.row [.int .i64 a, .int .i64 b] 0 0 false]) := by
  rw [store_agg ag111 (c := [.int .i64 0, .int .i64 0]) (s := 0) (by simp) (by decide) rfl (by simp) rfl (by simp [AV.one])]
  simp
def dirs : List AV := [.int .i64 (-1), .int .i64 0, .int .i64 1, .int .i64 0, .int .i64 0, .int .i64 (-1), .int .i64 0, .int .i64 1]
def pre (q1 q2 q3 q4 : Bool) : Nat → Nat
  | 0 => 0
  | 1 => b1 q1
  | 2 => b1 q1 + b1 q2
  | 3 => b1 q1 + b1 q2 + b1 q3
  | _ => b1 q1 + b1 q2 + b1 q3 + b1 q4
theorem row112 (H : AH) : rowV Try.prog 112 4 [(0, .agg [.int .i64 (-1), .int .i64 0]), (1, .agg [.int .i64 1, .int .i64 0]), (2, .agg [.int .i64 0, .int .i64 (-1)]), (3, .agg [.int .i64 0, .int .i64 1])] H = some (some (.slice (some H.length) 0 4 0 2 false), H ++ [.row dirs 0 8 false]) := by kernel_rfl
theorem b1_le (q : Bool) : b1 q ≤ 1 := by cases q <;> decide
theorem near_q {r c n : Nat} (hs : Sd r c) (hn : r * c = n) (b : Nat) (hb : b < n) (s : Nat) (hs32 : s < 4294967296) (H : AH) (Q : AV → AH → Prop) (h : Q (.int .i64 (bes r c (tb s) b : Nat)) H) : AC Try.prog 46 [.agg [.int .i64 r, .int .i64 c], .int .u32 s, .int .i64 b] H Q := by
  refine AC.quiet (belB_int _ _ _ _) (fun Q h => ?_) Q h
  have h25 := hs.le
  have hc1 := hs.c1
  have hc5 := hs.c5
  have hr5 := hs.r5
  rw [bes_eq] at h
  rw [← hn] at hb
  have hrow : b / c < r := Nat.div_lt_of_lt_mul (by rw [Nat.mul_comm]; exact hb)
  have hcol : b % c < c := Nat.mod_lt _ hc1
  have hdm := Nat.div_add_mod b c
  have hq := quo_nat b c
  have hm := rem_nat b c
  have hc0 : c ≠ 0 := by omega
  obtain ⟨x, hx⟩ : ∃ x, b / c = x := ⟨_, rfl⟩
  obtain ⟨y, hy⟩ : ∃ y, b % c = y := ⟨_, rfl⟩
  rw [hx] at hq hrow hdm
  rw [hy] at hm hcol hdm
  rw [hx, hy] at h
  obtain ⟨q1, hq1⟩ : ∃ q, (decide (0 < x) && tb s (b - c)) = q := ⟨_, rfl⟩
  obtain ⟨q2, hq2⟩ : ∃ q, (decide (x + 1 < r) && tb s (b + c)) = q := ⟨_, rfl⟩
  obtain ⟨q3, hq3⟩ : ∃ q, (decide (0 < y) && tb s (b - 1)) = q := ⟨_, rfl⟩
  obtain ⟨q4, hq4⟩ : ∃ q, (decide (y + 1 < c) && tb s (b + 1)) = q := ⟨_, rfl⟩
  rw [hq1, hq2, hq3, hq4] at h
  have l1 := b1_le q1
  have l2 := b1_le q2
  have l3 := b1_le q3
  have l4 := b1_le q4
  have h : ∀ H', Ext H H' → Q (.int .i64 (pre q1 q2 q3 q4 4 : Nat)) H' := h
  obtain ⟨I, hI, hz⟩ := zeroT_some zt111
  refine L_body 72 Try.func46 rfl rfl ?_
  refine L_reg [1, 2, 3] (fun K hK => ?_)
  simp [AV.isU, acells]
  apply hK; clear hK K
  have d1 : (H ++ [AObj.row [.int .i64 r, .int .i64 c] 0 0 false])[H.length]? = some (.row [.int .i64 r, .int .i64 c] 0 0 false) := by simp
  have hE : Ext H (H ++ [AObj.row [.int .i64 r, .int .i64 c] 0 0 false]) := .push _ _
  have hL : (H ++ [AObj.row [.int .i64 r, .int .i64 c] 0 0 false]).length = H.length + 1 := by simp
  generalize H ++ [AObj.row [.int .i64 r, .int .i64 c] 0 0 false] = H1 at d1 hE hL ⊢
  have a0 := ld_f0 d1
  have a1 := ld_f1 d1
  have w1 : IntKind.i64.wrap (x : Int) = x := wrap_i64 (by omega)
  have wy : IntKind.i64.wrap (y : Int) = y := wrap_i64 (by omega)
  have wn : IntKind.i64.wrap (-1) = -1 := wrap_i64 (by omega)
  refine L_reg [1, 2, 3, 7] (fun K hK => ?_)
  simp
  apply hK; clear hK K
  refine L_regT mixed [1, 3, 7, 8, 9] (by kernel_rfl) (fun K hK => ?_)
  simp [a1, hq, hm, w1, hc0]
  apply hK; clear hK K
  refine L_reg [1, 3, 7, 8, 9, 26, 27, 28] (fun K hK => ?_)
  simp [bd111, row112]
  apply hK; clear hK K
  have d2 : (H1 ++ [AObj.row dirs 0 8 false])[H.length + 1]? = some (.row dirs 0 8 false) := by rw [← hL]; simp
  have hE2 : Ext H1 (H1 ++ [AObj.row dirs 0 8 false]) := .push _ _
  replace d1 := hE2.row d1
  replace hE := hE.trans hE2
  rw [hL]
  show AWL _ _ _ _ (H1 ++ [AObj.row dirs 0 8 false]) _
  clear hE2 a0 a1
  generalize H1 ++ [AObj.row dirs 0 8 false] = H2 at d1 d2 hE ⊢
  refine L_block (L_loopV [7, 28] (fun q vs H' => ∃ i : Nat, q = 4 - i ∧ i ≤ 4 ∧ vs = [.int .i64 (pre q1 q2 q3 q4 i : Nat), .int .i64 i] ∧ Ext H H' ∧ H'[H.length]? = some (.row [.int .i64 r, .int .i64 c] 0 0 false) ∧ H'[H.length + 1]? = some (.row dirs 0 8 false)) _ [.int .i64 (0 : Nat), .int .i64 (0 : Nat)] rfl ⟨0, rfl, by omega, rfl, hE, d1, d2⟩ ?_)
  clear d1 d2 hE H2
  rintro q _ H2 ⟨i, rfl, hi, rfl, hE, d1, d2⟩
  refine L_reg [1, 3, 7, 8, 9, 26, 27, 28, 29] (fun K hK => ?_)
  simp
  apply hK; clear hK K
  refine L_dec (i < 4) (by simp; omega) (fun hlt => ?_) (fun hge => L_exit ?_)
  · refine L_block ?_
    have hi4 : i = 0 ∨ i = 1 ∨ i = 2 ∨ i = 3 := by omega
    rcases hi4 with rfl | rfl | rfl | rfl
    · have e0 : ldn H2 (H.length + 1) 0 2 0 = some [.int .i64 (-1), .int .i64 (0)] := by rw [ldn_row d2]; rfl
      obtain ⟨m, hm0⟩ : ∃ m, pre q1 q2 q3 q4 0 = m := ⟨_, rfl⟩
      have hm4 : m ≤ 0 := by rw [← hm0]; simp only [pre]; omega
      have hst1 := new111 H2 (-1) (0)
      rw [hm0]
      refine L_reg [1, 3, 7, 8, 9, 11, 26, 27, 28] (fun K hK => ?_)
      simp [e0, hI, hz, hst1]
      apply hK; clear hK K
      have d3 : (H2 ++ [AObj.row [.int .i64 (-1), .int .i64 (0)] 0 0 false])[H2.length]? = some (.row [.int .i64 (-1), .int .i64 (0)] 0 0 false) := by simp
      have hE2 : Ext H2 (H2 ++ [AObj.row [.int .i64 (-1), .int .i64 (0)] 0 0 false]) := .push _ _
      replace d1 := hE2.row d1
      replace d2 := hE2.row d2
      replace hE := hE.trans hE2
      generalize H2 ++ [AObj.row [.int .i64 (-1), .int .i64 (0)] 0 0 false] = H3 at d1 d2 d3 hE ⊢
      have f0 : ld H3 H2.length 0 0 = some (.int .i64 (-1)) := by rw [ld_row d3]; rfl
      have f1 : ld H3 H2.length 1 0 = some (.int .i64 (0)) := by rw [ld_row d3]; rfl
      have a0 := ld_f0 d1
      have a1 := ld_f1 d1
      by_cases hc : 0 < x
      · rw [decide_eq_true hc, Bool.true_and] at hq1
        obtain ⟨X, eX⟩ : ∃ X : Nat, (x : Int) + (-1) = X := ⟨x - 1, by omega⟩
        have eX2 : IntKind.i64.wrap ((x : Int) + (-1)) = X := by rw [eX]; exact wrap_i64 (by omega)
        have hXr : X < r := by omega
        have hYc : y < c := by omega
        obtain ⟨M, hM⟩ : ∃ M : Nat, X * c = M := ⟨_, rfl⟩
        have eM : (X : Int) * c = M := by rw [← hM]; simp
        have hMn : M + c ≤ r * c := by
          have : (X + 1) * c ≤ r * c := Nat.mul_le_mul_right c (by omega)
          rw [Nat.add_mul, Nat.one_mul, hM] at this; exact this
        have eM2 : IntKind.i64.wrap (M : Int) = M := wrap_i64 (by omega)
        obtain ⟨Z, hZ⟩ : ∃ Z : Nat, (M : Int) + y = Z := ⟨M + y, by omega⟩
        have eZ2 : IntKind.i64.wrap (Z : Int) = Z := wrap_i64 (by omega)
        have hZi : Z = b - c := by
          have e1 : x = X + 1 := by omega
          have e2 : c * x = x * c := Nat.mul_comm ..
          rw [e1] at hdm e2
          rw [Nat.mul_add, Nat.mul_one] at hdm
          have e3 : c * X = X * c := Nat.mul_comm ..
          omega
        have hZb : s.testBit Z = q1 := by rw [hZi]; exact hq1
        have hZ32 : Z ≤ IntKind.u32.bits := by simp [IntKind.bits]; omega
        have h32 : ∀ tt ll, binV Try.prog .and tt ll (.int .u32 ((s : Int) >>> Z)) (.int .u32 1) = some (.int .u32 (b1 q1 : Nat)) := fun tt ll => by rw [bit32 s Z hs32, hZb]
        have wb : IntKind.i64.wrap ((b1 q1 : Nat) : Int) = (b1 q1 : Nat) := wrap_i64 (by omega)
        have wa : IntKind.i64.wrap ((m : Int) + (b1 q1 : Nat)) = ((m + b1 q1 : Nat) : Int) := by rw [wrap_i64 (by omega)]; omega
        refine L_regT mixed [1, 3, 7, 8, 9, 12, 13, 26, 27, 28] (by kernel_rfl) (fun K hK => ?_)
        simp [f0, f1, eX2, wy]
        apply hK; clear hK K
        refine L_reg [1, 3, 7, 8, 9, 12, 13, 26, 27, 28, 57] (fun K hK => ?_)
        simp [hXr, hYc, a0, a1, pickV]
        apply hK; clear hK K
        refine L_true (by simp) ?_
        refine L_reg [1, 3, 7, 8, 9, 26, 27, 28] (fun K hK => ?_)
        simp [a1, eM, eM2, hZ, eZ2, n_shr' (k := .u32) s Z hZ32, h32, wb, wa]
        apply hK; clear hK K
        refine L_reg [1, 3, 7, 8, 9, 26, 27, 28] (fun K hK => ?_)
        simp
        apply hK; clear hK K
        refine ⟨4 - 1, [.int .i64 (pre q1 q2 q3 q4 1 : Nat), .int .i64 (1 : Nat)], by omega, ?_, 1, rfl, by omega, rfl, hE, d1, d2⟩
        rw [show pre q1 q2 q3 q4 1 = pre q1 q2 q3 q4 0 + b1 q1 by simp [pre], hm0]
        rfl
      · rw [decide_eq_false hc, Bool.false_and] at hq1
        have e9 : pre q1 q2 q3 q4 1 = pre q1 q2 q3 q4 0 := by rw [← hq1]; simp [pre, b1]
        have hx0 : x = 0 := by omega
        subst hx0
        have eX2 : IntKind.i64.wrap (((0 : Nat) : Int) + (-1)) = -1 := by rw [wrap_i64 (by omega)]; omega
        refine L_regT mixed [1, 3, 7, 8, 9, 12, 13, 26, 27, 28] (by kernel_rfl) (fun K hK => ?_)
        simp [f0, f1, wy, wn]
        apply hK; clear hK K
        refine L_reg [1, 3, 7, 8, 9, 12, 13, 26, 27, 28, 57] (fun K hK => ?_)
        simp [pickV]
        apply hK; clear hK K
        refine L_false (by simp) ?_
        refine L_reg [1, 3, 7, 8, 9, 26, 27, 28] (fun K hK => ?_)
        simp
        apply hK; clear hK K
        exact ⟨4 - 1, [.int .i64 (pre q1 q2 q3 q4 1 : Nat), .int .i64 (1 : Nat)], by omega, by rw [e9, hm0]; rfl, 1, rfl, by omega, rfl, hE, d1, d2⟩
    · have e0 : ldn H2 (H.length + 1) 0 2 2 = some [.int .i64 (1), .int .i64 (0)] := by rw [ldn_row d2]; rfl
      obtain ⟨m, hm0⟩ : ∃ m, pre q1 q2 q3 q4 1 = m := ⟨_, rfl⟩
      have hm4 : m ≤ 1 := by rw [← hm0]; simp only [pre]; omega
      have hst1 := new111 H2 (1) (0)
      rw [hm0]
      refine L_reg [1, 3, 7, 8, 9, 11, 26, 27, 28] (fun K hK => ?_)
      simp [e0, hI, hz, hst1]
      apply hK; clear hK K
      have d3 : (H2 ++ [AObj.row [.int .i64 (1), .int .i64 (0)] 0 0 false])[H2.length]? = some (.row [.int .i64 (1), .int .i64 (0)] 0 0 false) := by simp
      have hE2 : Ext H2 (H2 ++ [AObj.row [.int .i64 (1), .int .i64 (0)] 0 0 false]) := .push _ _
      replace d1 := hE2.row d1
      replace d2 := hE2.row d2
      replace hE := hE.trans hE2
      generalize H2 ++ [AObj.row [.int .i64 (1), .int .i64 (0)] 0 0 false] = H3 at d1 d2 d3 hE ⊢
      have f0 : ld H3 H2.length 0 0 = some (.int .i64 (1)) := by rw [ld_row d3]; rfl
      have f1 : ld H3 H2.length 1 0 = some (.int .i64 (0)) := by rw [ld_row d3]; rfl
      have a0 := ld_f0 d1
      have a1 := ld_f1 d1
      by_cases hc : x + 1 < r
      · rw [decide_eq_true hc, Bool.true_and] at hq2
        obtain ⟨X, eX⟩ : ∃ X : Nat, (x : Int) + (1) = X := ⟨x + 1, by omega⟩
        have eX2 : IntKind.i64.wrap ((x : Int) + (1)) = X := by rw [eX]; exact wrap_i64 (by omega)
        have hXr : X < r := by omega
        have hYc : y < c := by omega
        obtain ⟨M, hM⟩ : ∃ M : Nat, X * c = M := ⟨_, rfl⟩
        have eM : (X : Int) * c = M := by rw [← hM]; simp
        have hMn : M + c ≤ r * c := by
          have : (X + 1) * c ≤ r * c := Nat.mul_le_mul_right c (by omega)
          rw [Nat.add_mul, Nat.one_mul, hM] at this; exact this
        have eM2 : IntKind.i64.wrap (M : Int) = M := wrap_i64 (by omega)
        obtain ⟨Z, hZ⟩ : ∃ Z : Nat, (M : Int) + y = Z := ⟨M + y, by omega⟩
        have eZ2 : IntKind.i64.wrap (Z : Int) = Z := wrap_i64 (by omega)
        have hZi : Z = b + c := by
          have e1 : X = x + 1 := by omega
          have e2 : c * x = x * c := Nat.mul_comm ..
          rw [e1] at hM
          rw [Nat.add_mul, Nat.one_mul] at hM
          skip
          omega
        have hZb : s.testBit Z = q2 := by rw [hZi]; exact hq2
        have hZ32 : Z ≤ IntKind.u32.bits := by simp [IntKind.bits]; omega
        have h32 : ∀ tt ll, binV Try.prog .and tt ll (.int .u32 ((s : Int) >>> Z)) (.int .u32 1) = some (.int .u32 (b1 q2 : Nat)) := fun tt ll => by rw [bit32 s Z hs32, hZb]
        have wb : IntKind.i64.wrap ((b1 q2 : Nat) : Int) = (b1 q2 : Nat) := wrap_i64 (by omega)
        have wa : IntKind.i64.wrap ((m : Int) + (b1 q2 : Nat)) = ((m + b1 q2 : Nat) : Int) := by rw [wrap_i64 (by omega)]; omega
        refine L_regT mixed [1, 3, 7, 8, 9, 12, 13, 26, 27, 28] (by kernel_rfl) (fun K hK => ?_)
        simp [f0, f1, eX2, wy]
        apply hK; clear hK K
        refine L_reg [1, 3, 7, 8, 9, 12, 13, 26, 27, 28, 57] (fun K hK => ?_)
        simp [hXr, hYc, a0, a1, pickV]
        apply hK; clear hK K
        refine L_true (by simp) ?_
        refine L_reg [1, 3, 7, 8, 9, 26, 27, 28] (fun K hK => ?_)
        simp [a1, eM, eM2, hZ, eZ2, n_shr' (k := .u32) s Z hZ32, h32, wb, wa]
        apply hK; clear hK K
        refine L_reg [1, 3, 7, 8, 9, 26, 27, 28] (fun K hK => ?_)
        simp
        apply hK; clear hK K
        refine ⟨4 - 2, [.int .i64 (pre q1 q2 q3 q4 2 : Nat), .int .i64 (2 : Nat)], by omega, ?_, 2, rfl, by omega, rfl, hE, d1, d2⟩
        rw [show pre q1 q2 q3 q4 2 = pre q1 q2 q3 q4 1 + b1 q2 by simp [pre], hm0]
        rfl
      · rw [decide_eq_false hc, Bool.false_and] at hq2
        have e9 : pre q1 q2 q3 q4 2 = pre q1 q2 q3 q4 1 := by rw [← hq2]; simp [pre, b1]
        obtain ⟨X9, hX9⟩ : ∃ X9, x + 1 = X9 := ⟨_, rfl⟩
        rw [hX9] at hc
        have eX2 : IntKind.i64.wrap ((x : Int) + (1)) = (X9 : Int) := by rw [wrap_i64 (by omega)]; omega
        refine L_regT mixed [1, 3, 7, 8, 9, 12, 13, 26, 27, 28] (by kernel_rfl) (fun K hK => ?_)
        simp [f0, f1, eX2, wy]
        apply hK; clear hK K
        refine L_reg [1, 3, 7, 8, 9, 12, 13, 26, 27, 28, 57] (fun K hK => ?_)
        simp [hc, a0, pickV]
        apply hK; clear hK K
        refine L_false (by simp) ?_
        refine L_reg [1, 3, 7, 8, 9, 26, 27, 28] (fun K hK => ?_)
        simp
        apply hK; clear hK K
        exact ⟨4 - 2, [.int .i64 (pre q1 q2 q3 q4 2 : Nat), .int .i64 (2 : Nat)], by omega, by rw [e9, hm0]; rfl, 2, rfl, by omega, rfl, hE, d1, d2⟩
    · have e0 : ldn H2 (H.length + 1) 0 2 4 = some [.int .i64 (0), .int .i64 (-1)] := by rw [ldn_row d2]; rfl
      obtain ⟨m, hm0⟩ : ∃ m, pre q1 q2 q3 q4 2 = m := ⟨_, rfl⟩
      have hm4 : m ≤ 2 := by rw [← hm0]; simp only [pre]; omega
      have hst1 := new111 H2 (0) (-1)
      rw [hm0]
      refine L_reg [1, 3, 7, 8, 9, 11, 26, 27, 28] (fun K hK => ?_)
      simp [e0, hI, hz, hst1]
      apply hK; clear hK K
      have d3 : (H2 ++ [AObj.row [.int .i64 (0), .int .i64 (-1)] 0 0 false])[H2.length]? = some (.row [.int .i64 (0), .int .i64 (-1)] 0 0 false) := by simp
      have hE2 : Ext H2 (H2 ++ [AObj.row [.int .i64 (0), .int .i64 (-1)] 0 0 false]) := .push _ _
      replace d1 := hE2.row d1
      replace d2 := hE2.row d2
      replace hE := hE.trans hE2
      generalize H2 ++ [AObj.row [.int .i64 (0), .int .i64 (-1)] 0 0 false] = H3 at d1 d2 d3 hE ⊢
      have f0 : ld H3 H2.length 0 0 = some (.int .i64 (0)) := by rw [ld_row d3]; rfl
      have f1 : ld H3 H2.length 1 0 = some (.int .i64 (-1)) := by rw [ld_row d3]; rfl
      have a0 := ld_f0 d1
      have a1 := ld_f1 d1
      by_cases hc : 0 < y
      · rw [decide_eq_true hc, Bool.true_and] at hq3
        obtain ⟨Y, eY⟩ : ∃ Y : Nat, (y : Int) + (-1) = Y := ⟨y - 1, by omega⟩
        have eY2 : IntKind.i64.wrap ((y : Int) + (-1)) = Y := by rw [eY]; exact wrap_i64 (by omega)
        have hXr : x < r := by omega
        have hYc : Y < c := by omega
        obtain ⟨M, hM⟩ : ∃ M : Nat, x * c = M := ⟨_, rfl⟩
        have eM : (x : Int) * c = M := by rw [← hM]; simp
        have hMn : M + c ≤ r * c := by
          have : (x + 1) * c ≤ r * c := Nat.mul_le_mul_right c (by omega)
          rw [Nat.add_mul, Nat.one_mul, hM] at this; exact this
        have eM2 : IntKind.i64.wrap (M : Int) = M := wrap_i64 (by omega)
        obtain ⟨Z, hZ⟩ : ∃ Z : Nat, (M : Int) + Y = Z := ⟨M + Y, by omega⟩
        have eZ2 : IntKind.i64.wrap (Z : Int) = Z := wrap_i64 (by omega)
        have hZi : Z = b - 1 := by
          have e2 : c * x = x * c := Nat.mul_comm ..
          skip
          skip
          omega
        have hZb : s.testBit Z = q3 := by rw [hZi]; exact hq3
        have hZ32 : Z ≤ IntKind.u32.bits := by simp [IntKind.bits]; omega
        have h32 : ∀ tt ll, binV Try.prog .and tt ll (.int .u32 ((s : Int) >>> Z)) (.int .u32 1) = some (.int .u32 (b1 q3 : Nat)) := fun tt ll => by rw [bit32 s Z hs32, hZb]
        have wb : IntKind.i64.wrap ((b1 q3 : Nat) : Int) = (b1 q3 : Nat) := wrap_i64 (by omega)
        have wa : IntKind.i64.wrap ((m : Int) + (b1 q3 : Nat)) = ((m + b1 q3 : Nat) : Int) := by rw [wrap_i64 (by omega)]; omega
        refine L_regT mixed [1, 3, 7, 8, 9, 12, 13, 26, 27, 28] (by kernel_rfl) (fun K hK => ?_)
        simp [f0, f1, eY2, w1]
        apply hK; clear hK K
        refine L_reg [1, 3, 7, 8, 9, 12, 13, 26, 27, 28, 57] (fun K hK => ?_)
        simp [hXr, hYc, a0, a1, pickV]
        apply hK; clear hK K
        refine L_true (by simp) ?_
        refine L_reg [1, 3, 7, 8, 9, 26, 27, 28] (fun K hK => ?_)
        simp [a1, eM, eM2, hZ, eZ2, n_shr' (k := .u32) s Z hZ32, h32, wb, wa]
        apply hK; clear hK K
        refine L_reg [1, 3, 7, 8, 9, 26, 27, 28] (fun K hK => ?_)
        simp
        apply hK; clear hK K
        refine ⟨4 - 3, [.int .i64 (pre q1 q2 q3 q4 3 : Nat), .int .i64 (3 : Nat)], by omega, ?_, 3, rfl, by omega, rfl, hE, d1, d2⟩
        rw [show pre q1 q2 q3 q4 3 = pre q1 q2 q3 q4 2 + b1 q3 by simp [pre], hm0]
        rfl
      · rw [decide_eq_false hc, Bool.false_and] at hq3
        have e9 : pre q1 q2 q3 q4 3 = pre q1 q2 q3 q4 2 := by rw [← hq3]; simp [pre, b1]
        have hy0 : y = 0 := by omega
        subst hy0
        have eY2 : IntKind.i64.wrap (((0 : Nat) : Int) + (-1)) = -1 := by rw [wrap_i64 (by omega)]; omega
        refine L_regT mixed [1, 3, 7, 8, 9, 12, 13, 26, 27, 28] (by kernel_rfl) (fun K hK => ?_)
        simp [f0, f1, w1, wn]
        apply hK; clear hK K
        refine L_reg [1, 3, 7, 8, 9, 12, 13, 26, 27, 28, 57] (fun K hK => ?_)
        simp [hrow, a0, pickV]
        apply hK; clear hK K
        refine L_false (by simp) ?_
        refine L_reg [1, 3, 7, 8, 9, 26, 27, 28] (fun K hK => ?_)
        simp
        apply hK; clear hK K
        exact ⟨4 - 3, [.int .i64 (pre q1 q2 q3 q4 3 : Nat), .int .i64 (3 : Nat)], by omega, by rw [e9, hm0]; rfl, 3, rfl, by omega, rfl, hE, d1, d2⟩
    · have e0 : ldn H2 (H.length + 1) 0 2 6 = some [.int .i64 (0), .int .i64 (1)] := by rw [ldn_row d2]; rfl
      obtain ⟨m, hm0⟩ : ∃ m, pre q1 q2 q3 q4 3 = m := ⟨_, rfl⟩
      have hm4 : m ≤ 3 := by rw [← hm0]; simp only [pre]; omega
      have hst1 := new111 H2 (0) (1)
      rw [hm0]
      refine L_reg [1, 3, 7, 8, 9, 11, 26, 27, 28] (fun K hK => ?_)
      simp [e0, hI, hz, hst1]
      apply hK; clear hK K
      have d3 : (H2 ++ [AObj.row [.int .i64 (0), .int .i64 (1)] 0 0 false])[H2.length]? = some (.row [.int .i64 (0), .int .i64 (1)] 0 0 false) := by simp
      have hE2 : Ext H2 (H2 ++ [AObj.row [.int .i64 (0), .int .i64 (1)] 0 0 false]) := .push _ _
      replace d1 := hE2.row d1
      replace d2 := hE2.row d2
      replace hE := hE.trans hE2
      generalize H2 ++ [AObj.row [.int .i64 (0), .int .i64 (1)] 0 0 false] = H3 at d1 d2 d3 hE ⊢
      have f0 : ld H3 H2.length 0 0 = some (.int .i64 (0)) := by rw [ld_row d3]; rfl
      have f1 : ld H3 H2.length 1 0 = some (.int .i64 (1)) := by rw [ld_row d3]; rfl
      have a0 := ld_f0 d1
      have a1 := ld_f1 d1
      by_cases hc : y + 1 < c
      · rw [decide_eq_true hc, Bool.true_and] at hq4
        obtain ⟨Y, eY⟩ : ∃ Y : Nat, (y : Int) + (1) = Y := ⟨y + 1, by omega⟩
        have eY2 : IntKind.i64.wrap ((y : Int) + (1)) = Y := by rw [eY]; exact wrap_i64 (by omega)
        have hXr : x < r := by omega
        have hYc : Y < c := by omega
        obtain ⟨M, hM⟩ : ∃ M : Nat, x * c = M := ⟨_, rfl⟩
        have eM : (x : Int) * c = M := by rw [← hM]; simp
        have hMn : M + c ≤ r * c := by
          have : (x + 1) * c ≤ r * c := Nat.mul_le_mul_right c (by omega)
          rw [Nat.add_mul, Nat.one_mul, hM] at this; exact this
        have eM2 : IntKind.i64.wrap (M : Int) = M := wrap_i64 (by omega)
        obtain ⟨Z, hZ⟩ : ∃ Z : Nat, (M : Int) + Y = Z := ⟨M + Y, by omega⟩
        have eZ2 : IntKind.i64.wrap (Z : Int) = Z := wrap_i64 (by omega)
        have hZi : Z = b + 1 := by
          have e2 : c * x = x * c := Nat.mul_comm ..
          skip
          skip
          omega
        have hZb : s.testBit Z = q4 := by rw [hZi]; exact hq4
        have hZ32 : Z ≤ IntKind.u32.bits := by simp [IntKind.bits]; omega
        have h32 : ∀ tt ll, binV Try.prog .and tt ll (.int .u32 ((s : Int) >>> Z)) (.int .u32 1) = some (.int .u32 (b1 q4 : Nat)) := fun tt ll => by rw [bit32 s Z hs32, hZb]
        have wb : IntKind.i64.wrap ((b1 q4 : Nat) : Int) = (b1 q4 : Nat) := wrap_i64 (by omega)
        have wa : IntKind.i64.wrap ((m : Int) + (b1 q4 : Nat)) = ((m + b1 q4 : Nat) : Int) := by rw [wrap_i64 (by omega)]; omega
        refine L_regT mixed [1, 3, 7, 8, 9, 12, 13, 26, 27, 28] (by kernel_rfl) (fun K hK => ?_)
        simp [f0, f1, eY2, w1]
        apply hK; clear hK K
        refine L_reg [1, 3, 7, 8, 9, 12, 13, 26, 27, 28, 57] (fun K hK => ?_)
        simp [hXr, hYc, a0, a1, pickV]
        apply hK; clear hK K
        refine L_true (by simp) ?_
        refine L_reg [1, 3, 7, 8, 9, 26, 27, 28] (fun K hK => ?_)
        simp [a1, eM, eM2, hZ, eZ2, n_shr' (k := .u32) s Z hZ32, h32, wb, wa]
        apply hK; clear hK K
        refine L_reg [1, 3, 7, 8, 9, 26, 27, 28] (fun K hK => ?_)
        simp
        apply hK; clear hK K
        refine ⟨4 - 4, [.int .i64 (pre q1 q2 q3 q4 4 : Nat), .int .i64 (4 : Nat)], by omega, ?_, 4, rfl, by omega, rfl, hE, d1, d2⟩
        rw [show pre q1 q2 q3 q4 4 = pre q1 q2 q3 q4 3 + b1 q4 by simp [pre], hm0]
        rfl
      · rw [decide_eq_false hc, Bool.false_and] at hq4
        have e9 : pre q1 q2 q3 q4 4 = pre q1 q2 q3 q4 3 := by rw [← hq4]; simp [pre, b1]
        obtain ⟨X9, hX9⟩ : ∃ X9, y + 1 = X9 := ⟨_, rfl⟩
        rw [hX9] at hc
        have eY2 : IntKind.i64.wrap ((y : Int) + (1)) = (X9 : Int) := by rw [wrap_i64 (by omega)]; omega
        refine L_regT mixed [1, 3, 7, 8, 9, 12, 13, 26, 27, 28] (by kernel_rfl) (fun K hK => ?_)
        simp [f0, f1, eY2, w1]
        apply hK; clear hK K
        refine L_reg [1, 3, 7, 8, 9, 12, 13, 26, 27, 28, 57] (fun K hK => ?_)
        simp [hc, hrow, a0, a1, pickV]
        apply hK; clear hK K
        refine L_false (by simp) ?_
        refine L_reg [1, 3, 7, 8, 9, 26, 27, 28] (fun K hK => ?_)
        simp
        apply hK; clear hK K
        exact ⟨4 - 4, [.int .i64 (pre q1 q2 q3 q4 4 : Nat), .int .i64 (4 : Nat)], by omega, by rw [e9, hm0]; rfl, 4, rfl, by omega, rfl, hE, d1, d2⟩
  · have e : i = 4 := by omega
    subst e
    refine L_reg [6] (fun K hK => ?_)
    simp
    apply hK; clear hK K
    exact L_ret ⟨.inr rfl, _, rfl, h _ hE⟩
end Go.Proofs.Ytfbpgnjeafadmaa.Fl

/- slices.Repeat of one number. -/
namespace Go.Proofs.Ytfbpgnjeafadmaa.Fl
open Go Go.Proofs.Ytfbpgnjeafadmaa Go.Proofs.Ytfbpgnjeafadmaa.AX
set_option maxRecDepth 100000

@[simp] theorem s_isc_copy (xs : Array Operand) (ts : Array TypeId) : isFnCall (.call ⟨.builtin .copy, xs, ts⟩) = false := rfl
@[simp] theorem x_copy {P : Program} {H : AH} {ρ : Operand → AV} (x y : Operand) (t u : TypeId) : execN P ρ H (.call ⟨.builtin .copy, #[x, y], #[t, u]⟩) = appV (aCopy P H t (ρ x) (ρ y)) := by
  have : execN P ρ H (.call ⟨.builtin .copy, #[x, y], #[t, u]⟩) = (aCopy P H t (ρ x) (ρ y)).map fun p => (some p.1, p.2) := rfl
  rw [this]
  cases aCopy P H t (ρ x) (ρ y) <;> rfl
theorem all_ints (l : List Int) : (l.map (AV.int .i64)).all AV.one = true := by
  rw [List.all_eq_true]
  intro x hx
  obtain ⟨y, -, rfl⟩ := List.mem_map.1 hx; rfl
theorem known_ints (l : List Int) : ∀ v ∈ l.map (AV.int .i64), v ≠ .undef := by
  intro x hx
  obtain ⟨y, -, rfl⟩ := List.mem_map.1 hx; simp
theorem ldn_ints {H : AH} {r ver : Nat} : ∀ {m : List Int} {p : Nat}, (∀ i (h : i < m.length), ld H r (p + i) ver = some (.int .i64 m[i])) → ldn H r ver m.length p = some (m.map (.int .i64))
  | [], _, _ => rfl
  | x :: m, p, h => by
    have h0 := h 0 (by simp)
    simp only [Nat.add_zero, List.getElem_cons_zero] at h0
    have h1 : ldn H r ver m.length (p + 1) = some (m.map (.int .i64)) := ldn_ints fun i hi => by
      have := h (i + 1) (by simpa using hi)
      simp only [List.getElem_cons_succ] at this
      rw [← this]; congr 1; omega
    rw [List.length_cons, ldn_succ, h0, Option.bind_some, h1]
    rfl
/-- Numbers are copied into the middle of a row. -/
theorem copy_mid {H : AH} {w s p n : Nat} {v : AV} {a b d m : List Int} (hw : H[w]? = some (.row ((a ++ b ++ d).map (.int .i64)) 0 s false)) (hp : a.length = p) (hb : b.length = m.length) (hm : 0 < m.length) (hn : m.length ≤ n) (hv : ∃ r off ver full k, v = .slice (some r) off k ver 1 full ∧ min k n = m.length ∧ ∀ i (h : i < m.length), ld H r (off + i) ver = some (.int .i64 m[i])) :
    aCopy Try.prog H 22 (.slice (some w) p n 0 1 false) v = some (.int .i64 m.length, H.set w (.row ((a ++ m ++ d).map (.int .i64)) 0 (min s p) false)) := by
  obtain ⟨e, I, h1, h2, h3, h4, -⟩ := elT_some el22
  obtain ⟨i, z, g1, g2, g3, -⟩ := (tiOf_some h2).2
  obtain ⟨r, off, ver, full, k, rfl, hk, hld⟩ := hv
  have hld2 : ldn H r ver m.length off = some (m.map (.int .i64)) := ldn_ints hld
  have hone := all_ints m
  have e1 : i.size = 1 := by rw [g3, h3]
  have hst : stn H w 0 (m.map (.int .i64)) p = some (H.set w (.row ((a ++ m ++ d).map (.int .i64)) 0 (min s p) false)) := by
    obtain ⟨y, m', rfl⟩ : ∃ y m', m = y :: m' := by cases m with
      | nil => simp at hm
      | cons y m' => exact ⟨y, m', rfl⟩
    have hdr : ((a ++ b ++ d).map (AV.int .i64)).drop p = b.map (.int .i64) ++ d.map (.int .i64) := by
      rw [List.append_assoc, List.map_append, List.map_append, ← hp, ← List.length_map (f := AV.int .i64), List.drop_left]
    have htk : (takeKnown ((y :: m').map (AV.int .i64)).length (((a ++ b ++ d).map (AV.int .i64)).drop p)).isSome = true := by
      rw [hdr, List.length_map, ← hb, ← List.length_map (f := AV.int .i64), take_pre (known_ints b)]; rfl
    have e2 : ((a ++ b ++ d).map (AV.int .i64)).take p = a.map (.int .i64) := by
      rw [List.append_assoc, List.map_append, ← hp, ← List.length_map (f := AV.int .i64), List.take_left]
    have e3 : ((a ++ b ++ d).map (AV.int .i64)).drop (p + ((y :: m').map (AV.int .i64)).length) = d.map (.int .i64) := by
      have e4 : p + ((y :: m').map (AV.int .i64)).length = ((a ++ b).map (AV.int .i64)).length := by
        rw [List.length_map, List.length_map, List.length_append, hp, hb]
      rw [e4, List.map_append (l₁ := a ++ b), List.drop_left]
    simp only [List.map_cons] at hone htk e3 ⊢
    simp only [stn, hw]
    rw [if_pos ⟨trivial, trivial, hone, htk⟩, e2, e3]
    simp
  simp only [aCopy, h1, g1, isNilSl, slParts, Bool.false_and, Bool.false_eq_true, if_false, hk, e1, Nat.mul_one]
  rw [if_neg (by omega), if_pos ⟨trivial, trivial⟩, hld2, Option.bind_some, if_pos hone, hst]
  rfl
noncomputable def mulR (n : Nat) : Bool := match callN (runZ cx 300) 94 [.int .u64 1, .int .u64 (.ofNat n)] [] with
  | some (.tuple [.int .u64 a, .int .u64 b], []) => ieq a 0 && ieq b (.ofNat n)
  | _ => false
theorem mul_all : (List.range 26).all mulR = true := by kernel_rfl
theorem mul_ac (n : Nat) (hn : n ≤ 25) (H : AH) (Q : AV → AH → Prop) (h : Q (.tuple [.int .u64 0, .int .u64 n]) H) : AC Try.prog 94 [.int .u64 1, .int .u64 n] H Q := by
  have h1 := List.all_eq_true.1 mul_all n (List.mem_range.2 (by omega))
  unfold mulR at h1
  split at h1
  · rename_i a b hm
    simp only [ieq_eq, Bool.and_eq_true, beq_iff_eq] at h1
    obtain ⟨rfl, rfl⟩ := h1
    exact AC_kernZ cx_ok 300 hm (.cons (.int ..) (.cons (.int ..) .nil)) (.tuple (.cons (.int ..) (.cons (.int ..) .nil))) h
  · cases h1
def rp (k n : Nat) : List Int := List.replicate k (-1) ++ List.replicate (n - k) 0
theorem bnd_lo {n k : Nat} (h : k ≤ n) : aBounds n (some (.int .i64 (k : Int))) none none = some (k, n, n) := by
  simp [aBounds, aBound, h]
theorem bnd_hi {n k : Nat} (h : k ≤ n) : aBounds n none (some (.int .i64 (k : Int))) none = some (0, k, n) := by
  simp [aBounds, aBound, h]
theorem repeat_ac (v : AV) (n : Nat) (h1 : 1 ≤ n) (hn : n ≤ 25) (H : AH) (Q : AV → AH → Prop) (hv : Ls H v [-1]) (h : ∀ v' H', OwnF H.length H' v' ((List.replicate n (-1 : Int)).map (.int .i64)) → Ext H H' → Q v' H') : AC Try.prog 86 [v, .int .i64 n] H Q := by
  refine L_body 48 Try.func86 rfl rfl ?_
  have hl := ls_len hv
  have w1 : IntKind.u64.wrap (n : Int) = n := wrap_u64 (by omega)
  have w2 : IntKind.i64.wrap (n : Int) = n := wrap_i64 (by omega)
  refine L_reg [0, 1] (fun K hK => ?_)
  simp
  apply hK; clear hK K
  refine L_reg [0, 1, 10] (fun K hK => ?_)
  simp
  apply hK; clear hK K
  refine L_false (by simp) ?_
  refine L_reg [0, 5, 6] (fun K hK => ?_)
  simp [okFn_low, hl, w1]
  refine mul_ac n hn _ _ ?_
  simp
  apply hK; clear hK K
  refine L_reg [0, 6, 26] (fun K hK => ?_)
  simp [pickV]
  apply hK; clear hK K
  refine L_false (by simp; omega) ?_
  refine L_reg [0, 7] (fun K hK => ?_)
  simp [w2, make_z elz22 (show n ≤ 16777216 by omega)]
  apply hK; clear hK K
  have d1 : (H ++ [AObj.row (List.replicate n (.int .i64 0)) 0 0 false])[H.length]? = some (.row ((([] : List Int) ++ [0] ++ List.replicate (n - 1) 0).map (.int .i64)) 0 0 false) := by
    obtain ⟨k, rfl⟩ : ∃ k, n = k + 1 := ⟨n - 1, by omega⟩
    simp [List.replicate_succ]
  have hE : Ext H (H ++ [AObj.row (List.replicate n (.int .i64 0)) 0 0 false]) := .push _ _
  generalize H ++ [AObj.row (List.replicate n (.int .i64 0)) 0 0 false] = H1 at d1 hE ⊢
  have hcp : aCopy Try.prog H1 22 (.slice (some H.length) 0 n 0 1 false) v = some (.int .i64 1, H1.set H.length (.row ((rp 1 n).map (.int .i64)) 0 (min 0 0) false)) := copy_mid (p := 0) (m := [-1]) (n := n) (v := v) d1 rfl rfl (by simp) (by simp; omega) (by
    obtain ⟨r, off, ver, sz, full, hve, hld⟩ := hv.ext hE
    obtain ⟨r', e1, e2, e3⟩ := hld 0 (by simp)
    subst e1 e2
    refine ⟨r', off, ver, full, 1, hve, by simp; omega, fun i hi => ?_⟩
    have : i = 0 := by simpa using hi
    subst this
    exact e3)
  refine L_reg [7, 8] (fun K hK => ?_)
  simp [hcp]
  apply hK; clear hK K
  refine L_block (L_loopV [8] (fun q vs H' => ∃ (k s : Nat), q = n - k ∧ 1 ≤ k ∧ k ≤ n ∧ vs = [.int .i64 k] ∧ Ext H H' ∧ H'[H.length]? = some (.row ((rp k n).map (.int .i64)) 0 s false)) _ [.int .i64 (1 : Nat)] rfl ⟨1, min 0 0, rfl, by omega, by omega, rfl, hE.set _ (Nat.le_refl _), get_set d1⟩ ?_)
  clear hcp d1 hE H1
  rintro q _ H1 ⟨k, s, rfl, hk1, hkn, rfl, hE, d1⟩
  refine L_reg [7, 8, 37] (fun K hK => ?_)
  simp
  apply hK; clear hK K
  refine L_dec (k < n) (by simp) (fun hlt => ?_) (fun hge => L_exit ?_)
  · refine L_block ?_
    obtain ⟨m, hm⟩ : ∃ m, min k (n - k) = m := ⟨_, rfl⟩
    have e1 : rp k n = List.replicate k (-1) ++ List.replicate m 0 ++ List.replicate (n - k - m) 0 := by
      rw [rp, List.append_assoc, List.replicate_append_replicate]; congr 2; omega
    have e2 : rp (k + m) n = List.replicate k (-1) ++ List.replicate m (-1) ++ List.replicate (n - k - m) 0 := by
      rw [rp, List.replicate_append_replicate]; congr 2; omega
    rw [e1] at d1
    have hrow : ∀ i, i < k → ld H1 H.length i 0 = some (.int .i64 (-1)) := by
      intro i hi
      rw [ld_row d1, List.getElem?_map, List.append_assoc, List.getElem?_append_left (by simpa using hi), List.getElem?_replicate, if_pos hi]
      rfl
    have hcp := copy_mid (p := k) (m := List.replicate m (-1)) (n := n - k) (v := .slice (some H.length) 0 k 0 1 false) d1 (by simp) (by simp) (by simp; omega) (by simp; omega) ⟨H.length, 0, 0, false, k, rfl, by simp; omega, fun i hi => by
      rw [Nat.zero_add, hrow i (by simp at hi; omega)]
      simp⟩
    have w3 : IntKind.i64.wrap ((k : Int) + (m : Nat)) = ((k + m : Nat) : Int) := by rw [wrap_i64 (by omega)]; omega
    simp only [List.length_replicate] at hcp
    refine L_regT mixed [7, 8] (by kernel_rfl) (fun K hK => ?_)
    simp [slice_sl slz22, hcp, w3, bnd_lo hkn, bnd_hi hkn]
    apply hK; clear hK K
    have := hE.1
    refine ⟨n - (k + m), [.int .i64 (k + m : Nat)], by omega, by simp, k + m, min s k, rfl, by omega, by omega, rfl, hE.set _ (Nat.le_refl _), ?_⟩
    rw [e2]
    have := get_set (o' := .row ((List.replicate k (-1 : Int) ++ List.replicate m (-1) ++ List.replicate (n - k - m) 0).map (.int .i64)) 0 (min s k) false) d1
    simpa using this
  · have e : k = n := by omega
    subst e
    have e1 : rp k k = List.replicate k (-1) := by simp [rp]
    rw [e1] at d1
    refine L_reg [4] (fun K hK => ?_)
    simp
    apply hK; clear hK K
    refine L_ret ⟨.inr rfl, _, rfl, h _ H1 (.inr ⟨H.length, 0, s, Nat.le_refl _, ?_, d1⟩) hE⟩
    simp
end Go.Proofs.Ytfbpgnjeafadmaa.Fl

/- The law's days. -/
namespace Go.Proofs.Ytfbpgnjeafadmaa.Fl
open Go Go.Proofs.Ytfbpgnjeafadmaa Go.Proofs.Ytfbpgnjeafadmaa.AX
set_option maxRecDepth 100000

def iL (n : Nat) (f : Nat → Int) : List Int := (List.range n).map f
theorem iL_len (n : Nat) (f : Nat → Int) : (iL n f).length = n := by simp [iL]
theorem iL_get {n : Nat} (f : Nat → Int) {i : Nat} (hi : i < n) : (iL n f)[i]? = some (f i) := by
  simp [iL, List.getElem?_range hi]
theorem iL_g {n : Nat} (f : Nat → Int) {i : Nat} (hi : i < n) : g (iL n f) i = f i := by
  rw [g, List.getD_eq_getElem?_getD, iL_get f hi]; rfl
theorem iL_ext {n : Nat} {f h : Nat → Int} (e : ∀ b, b < n → f b = h b) : iL n f = iL n h :=
  List.map_congr_left fun b hb => e b (List.mem_range.1 hb)
theorem iL_set {n : Nat} (f : Nat → Int) (b : Nat) (v : Int) : (iL n f).set b v = iL n (updI f b v) := by
  refine List.ext_getElem? fun i => ?_
  rw [List.getElem?_set]
  by_cases hi : i < n
  · rw [iL_get _ hi, iL_get _ hi, iL_len]
    unfold updI
    split
    · rename_i h; subst h; simp [hi]
    · rename_i h; rw [if_neg (fun h' => h h'.symm)]
  · have h1 : ∀ f, (iL n f)[i]? = none := fun f => by simp [iL]; omega
    rw [h1, h1, iL_len]
    split
    · simp; omega
    · rfl
theorem st_l {H : AH} {w ver s n i : Nat} {f : Nat → Int} {x : Int} (hr : H[w]? = some (.row ((iL n f).map (.int .i64)) ver s false)) (hi : i < n) : storeV Try.prog 3 H (.ptr w i ver) (.int .i64 x) = some (none, H.set w (.row ((iL n (updI f i x)).map (.int .i64)) ver (min s i) false)) := by
  rw [store_row (P := Try.prog) (u := 3) (p := i) sc3 (x := .int .i64 x) (y := .int .i64 (f i)) rfl hr (by rw [List.getElem?_map, iL_get f hi]; rfl), ← List.map_set, iL_set]
theorem tb_inj {a b : Nat} (h : tb a = tb b) : a = b := Nat.eq_of_testBit_eq fun i => congrFun h i
theorem bit1 (b x : Nat) : (1 <<< b).testBit x = decide (b = x) := by
  rw [Nat.shiftLeft_eq, Nat.one_mul, Nat.testBit_two_pow]
theorem tb_upd (C b : Nat) : tb (C ||| 1 <<< b) = upd (tb C) b true := by
  funext x
  show (C ||| 1 <<< b).testBit x = if x = b then true else C.testBit x
  rw [Nat.testBit_or, bit1]
  by_cases h : x = b
  · subst h; simp
  · rw [if_neg h, decide_eq_false (fun e => h e.symm), Bool.or_false]
theorem tb_lt {m n : Nat} (h : m < 2 ^ n) (b : Nat) (hb : tb m b = true) : b < n := by
  apply Classical.byContradiction
  intro hn
  have : m.testBit b = false := Nat.testBit_lt_two_pow (Nat.lt_of_lt_of_le h (Nat.pow_le_pow_right (by decide) (by omega)))
  rw [show tb m b = m.testBit b from rfl, this] at hb
  cases hb
theorem or_lt {C b n : Nat} (h : C < 2 ^ n) (hb : b < n) : C ||| 1 <<< b < 2 ^ n := by
  refine Nat.or_lt_two_pow h ?_
  rw [Nat.shiftLeft_eq, Nat.one_mul]
  exact Nat.pow_lt_pow_right (by decide) hb
theorem p32 {m n : Nat} (hn : n ≤ 25) (h : m < 2 ^ n) : m < 4294967296 :=
  Nat.lt_of_lt_of_le h (Nat.le_trans (Nat.pow_le_pow_right (by decide) hn) (by decide))
/-- The days while a day goes on. -/
def dyj (r c : Nat) (O S : Nat → Bool) (t i b : Nat) : Int := if b < i then dayT r c O S (t + 1) b else dayT r c O S t b
/-- The days while the first bales are written. -/
def d0j (S : Nat → Bool) (j b : Nat) : Int := if (b : Int) ∈ (num S).take j then 0 else -1
theorem d0j_zero (S : Nat → Bool) : d0j S 0 = fun _ => -1 := by funext b; simp [d0j]
theorem d0j_succ {S : Nat → Bool} {j b : Nat} (hj : j < (num S).length) (hb : g (num S) j = b) : updI (d0j S j) b 0 = d0j S (j + 1) := by
  funext x
  unfold updI d0j
  rw [List.take_add_one, List.getElem?_eq_getElem hj, ← g_lt hj, hb]
  by_cases hx : x = b
  · subst hx; simp
  · rw [if_neg hx]
    have : ((x : Int) ∈ List.take j (num S) ++ (some (b : Int)).toList) ↔ ((x : Int) ∈ List.take j (num S)) := by
      simp; omega
    simp only [this]
theorem d0j_end {r c n : Nat} {O S : Nat → Bool} (hn : n ≤ 25) : iL n (d0j S (num S).length) = iL n (dyj r c O S 0 0) := by
  refine iL_ext fun b hb => ?_
  unfold d0j dyj dayT
  rw [List.take_length, if_neg (show ¬ b < 0 by omega)]
  show _ = if S b = true then _ else _
  cases hs : S b with
  | true =>
    rw [if_pos (mem_num.2 ⟨b, by omega, hs, rfl⟩), if_pos rfl]
    exact (day_new (t := 0) (by omega) rfl hs).symm
  | false =>
    have : ¬ (b : Int) ∈ num S := by
      intro hm
      obtain ⟨x, -, h2, h3⟩ := mem_num.1 hm
      have : x = b := by omega
      subst this
      rw [hs] at h2; cases h2
    rw [if_neg this, if_neg (by decide)]
theorem dyj_end {r c n : Nat} {O S : Nat → Bool} (t : Nat) : iL n (dyj r c O S t n) = iL n (dyj r c O S (t + 1) 0) := by
  refine iL_ext fun b hb => ?_
  unfold dyj
  rw [if_pos hb, if_neg (show ¬ b < 0 by omega)]
theorem dyj_t {r c i t : Nat} {O S : Nat → Bool} (ht : t < 25) (h1 : D r c 2 O S t i = false) (h2 : D r c 2 O S (t + 1) i = true) : updI (dyj r c O S t i) i ((t : Int) + 1) = dyj r c O S t (i + 1) := by
  funext b
  unfold updI dyj
  by_cases hb : b = i
  · subst hb
    rw [if_pos rfl, if_pos (by omega), dayT, if_pos h2, dayT_new ht h1 h2]
    simp
  · rw [if_neg hb]
    by_cases h : b < i
    · rw [if_pos h, if_pos (by omega)]
    · rw [if_neg h, if_neg (by omega)]
theorem dyj_f {r c i t : Nat} {O S : Nat → Bool} (h : D r c 2 O S (t + 1) i = D r c 2 O S t i) : dyj r c O S t i = dyj r c O S t (i + 1) := by
  funext b
  unfold dyj
  by_cases hb : b = i
  · subst hb
    rw [if_neg (by omega), if_pos (by omega)]
    unfold dayT
    rw [h]
  · by_cases h : b < i
    · rw [if_pos h, if_pos (by omega)]
    · rw [if_neg h, if_neg (by omega)]
theorem ldays_ac {r c n : Nat} (hs : Sd r c) (hn : r * c = n) (s z : Nat) (hsn : s < 2 ^ n) (hz : z < 4294967296) (H : AH) (Q : AV → AH → Prop) (h : ∀ v' H', OwnF H.length H' v' ((iL n (day r c (opn n (tb z)) (tb s))).map (.int .i64)) → Ext H H' → Q v' H') : AC Try.prog 45 [.agg [.int .i64 r, .int .i64 c], .int .u32 s, .int .u32 z] H Q := by
  have h25 := hs.le
  have hpos := hs.pos
  rw [hn] at h25 hpos
  obtain ⟨O, hO⟩ : ∃ O, opn n (tb z) = O := ⟨_, rfl⟩
  obtain ⟨S, hS⟩ : ∃ S, tb s = S := ⟨_, rfl⟩
  have hSn : ∀ b, S b = true → b < r * c := by rw [hn, ← hS]; exact tb_lt hsn
  rw [hO, hS] at h
  refine L_body 67 Try.func45 rfl rfl ?_
  refine L_reg [1, 2, 3] (fun K hK => ?_)
  simp [AV.isU, acells]
  apply hK; clear hK K
  have d3 : (H ++ [AObj.row [.int .i64 r, .int .i64 c] 0 0 false])[H.length]? = some (.row [.int .i64 r, .int .i64 c] 0 0 false) := by simp
  have hE : Ext H (H ++ [AObj.row [.int .i64 r, .int .i64 c] 0 0 false]) := .push _ _
  generalize H ++ [AObj.row [.int .i64 r, .int .i64 c] 0 0 false] = H1 at d3 hE ⊢
  have a0 := ld_f0 d3
  have a1 := ld_f1 d3
  have em : (r : Int) * c = n := by rw [← hn]; simp
  have row22 : rowV Try.prog 22 1 [(0, .int .i64 (-1))] H1 = some (some (.slice (some H1.length) 0 1 0 1 false), H1 ++ [.row [.int .i64 (-1)] 0 1 false]) := row1 el22 rfl rfl
  have hE2 : Ext H1 (H1 ++ [AObj.row [.int .i64 (-1)] 0 1 false]) := .push _ _
  have hLs : Ls (H1 ++ [AObj.row [.int .i64 (-1)] 0 1 false]) (.slice (some H1.length) 0 1 0 1 false) [-1] := Ls.row (l := [-1]) (ro := false) (s := 1) (by simp) false
  refine L_reg [1, 2, 3, 7] (fun K hK => ?_)
  have b0 := ld_f0 (hE2.row d3)
  have b1' := ld_f1 (hE2.row d3)
  simp [okFn_low, row22, b0, b1', em, wrap_i64 (a := (n : Int)) (by omega)]
  refine repeat_ac _ n hpos h25 _ _ hLs (fun v H2 hO2 hE3 => ?_)
  simp
  apply hK; clear hK K
  have hl1 : H.length + 1 ≤ H1.length := by
    have := (List.getElem?_eq_some_iff.1 d3).1
    omega
  replace d3 := hE3.row (hE2.row d3)
  replace hE := (hE.trans hE2).trans hE3
  obtain ⟨w, ver, st, hw, rfl, dw⟩ : ∃ w ver st, H.length + 1 ≤ w ∧ v = .slice (some w) 0 n ver 1 false ∧ H2[w]? = some (.row ((iL n fun _ => -1).map (.int .i64)) ver st false) := by
    rcases hO2 with ⟨h0, -⟩ | ⟨r', ver, stale, hr, hv, hrow⟩
    · exfalso
      have := congrArg List.length h0
      simp at this; omega
    · have e : List.replicate n (-1 : Int) = iL n fun _ => -1 := by
        refine List.ext_getElem? fun i => ?_
        by_cases hi : i < n
        · rw [iL_get _ hi, List.getElem?_replicate, if_pos hi]
        · rw [List.getElem?_replicate, if_neg hi]; exact (List.getElem?_eq_none (by rw [iL_len]; omega)).symm
      refine ⟨r', ver, stale, ?_, by simpa using hv, by rw [← e]; exact hrow⟩
      simp at hr; omega
  clear a0 a1 b0 b1' row22 hE2 hE3 hLs hO2 hl1
  refine L_reg [1, 2, 3, 7, 21, 22, 23] (fun K hK => ?_)
  simp [okFn_low]
  refine bits_ac s (p32 h25 hsn) _ _ (fun v H3 hN hE3 => ?_)
  rw [hS] at hN
  have hOb := hN.2
  have hv := ownF_ls hOb
  simp [ls_len hv]
  apply hK; clear hK K
  have hwl : w < H2.length := (List.getElem?_eq_some_iff.1 dw).1
  replace d3 := hE3.row d3
  replace dw := hE3.row dw
  replace hE := hE.trans hE3
  clear hE3 hN hv
  obtain ⟨N, hN⟩ : ∃ N, H2.length = N := ⟨_, rfl⟩
  rw [hN] at hwl hOb
  have hnl := num_len S
  refine L_block (L_loopV [23] (fun q vs H' => ∃ (j s : Nat), q = (num S).length - j ∧ j ≤ (num S).length ∧ vs = [.int .i64 j] ∧ Ext H H' ∧ OwnF N H' v ((num S).map (.int .i64)) ∧ H'[H.length]? = some (.row [.int .i64 r, .int .i64 c] 0 0 false) ∧ H'[w]? = some (.row ((iL n (d0j S j)).map (.int .i64)) ver s false)) _ [.int .i64 (0 : Nat)] rfl ⟨0, st, rfl, by omega, rfl, hE, hOb, d3, by rw [d0j_zero]; exact dw⟩ ?_)
  clear hE d3 dw hOb H3
  rintro q _ H3 ⟨j, st, rfl, hj, rfl, hE, hOb, d3, dw⟩
  have hv := ownF_ls hOb
  refine L_reg [1, 2, 3, 7, 21, 22, 23, 24] (fun K hK => ?_)
  simp
  apply hK; clear hK K
  refine L_dec (j < (num S).length) (by simp) (fun hlt => ?_) (fun hge => L_exit ?_)
  · refine L_block ?_
    obtain ⟨rz, pz, vz, hix, hldz⟩ := ls_ix hv hlt
    obtain ⟨b, hb, hb25, hSb⟩ := num_at hlt
    have hbn : b < n := by rw [← hn]; exact hSn b hSb
    rw [hb] at hldz
    have hst := st_l (x := 0) dw hbn
    rw [d0j_succ hlt hb] at hst
    refine L_reg [1, 2, 3, 7, 9, 21, 22, 23] (fun K hK => ?_)
    simp [hix, hldz]
    apply hK; clear hK K
    refine L_reg [1, 2, 3, 7, 21, 22, 23] (fun K hK => ?_)
    simp [hbn, hst]
    apply hK; clear hK K
    refine L_reg [1, 2, 3, 7, 21, 22, 23] (fun K hK => ?_)
    simp [wrap_i64 (a := (j : Int) + 1) (by omega)]
    apply hK; clear hK K
    refine ⟨(num S).length - (j + 1), [.int .i64 (j + 1 : Nat)], by omega, by simp, j + 1, min st b, rfl, by omega, rfl, hE.set _ (by omega), ownF_keep hOb fun i o hi ho => by rw [List.getElem?_set_ne (by omega)]; exact ho, ?_, get_set dw⟩
    rw [List.getElem?_set_ne (by omega)]; exact d3
  have hje : j = (num S).length := by omega
  rw [hje, d0j_end (r := r) (c := c) (O := O) h25] at dw
  clear hv hOb hge hje hj hN hwl
  refine L_reg [1, 2, 3, 7, 10] (fun K hK => ?_)
  simp
  apply hK; clear hK K
  refine L_block (L_loopV [1, 10] (fun q vs H' => ∃ (t m st : Nat), q = n + 1 - t ∧ t ≤ n ∧ vs = [.int .u32 m, .int .i64 (t + 1 : Nat)] ∧ tb m = D r c 2 O S t ∧ m < 2 ^ n ∧ Ext H H' ∧ H'[H.length]? = some (.row [.int .i64 r, .int .i64 c] 0 0 false) ∧ H'[w]? = some (.row ((iL n (dyj r c O S t 0)).map (.int .i64)) ver st false)) _ [.int .u32 s, .int .i64 ((0 + 1 : Nat) : Int)] rfl ⟨0, s, st, rfl, by omega, rfl, hS, hsn, hE, d3, dw⟩ ?_)
  clear hE d3 dw H3
  rintro q _ H3 ⟨t, m, st, rfl, htn, rfl, htm, hmn, hE, d3, dw⟩
  refine L_block ?_
  refine L_reg [1, 2, 3, 7, 10, 11] (fun K hK => ?_)
  simp
  apply hK; clear hK K
  refine L_reg [1, 2, 3, 7, 10, 11, 35, 36] (fun K hK => ?_)
  simp
  apply hK; clear hK K
  refine L_block (L_loopV [11, 36] (fun q vs H' => ∃ (i x st : Nat), q = n - i ∧ i ≤ n ∧ vs = [.int .u32 x, .int .i64 i] ∧ tb x = nxp r c 2 O (tb m) i ∧ x < 2 ^ n ∧ Ext H H' ∧ H'[H.length]? = some (.row [.int .i64 r, .int .i64 c] 0 0 false) ∧ H'[w]? = some (.row ((iL n (dyj r c O S t i)).map (.int .i64)) ver st false)) _ [.int .u32 m, .int .i64 (0 : Nat)] rfl ⟨0, m, st, rfl, by omega, rfl, by rw [nxp_zero], hmn, hE, d3, dw⟩ ?_)
  clear hE d3 dw H3
  rintro q _ H3 ⟨i, x, st, rfl, hi, rfl, hx, hxn, hE, d3, dw⟩
  refine L_reg [1, 2, 3, 7, 10, 11, 35, 36, 37] (fun K hK => ?_)
  simp
  apply hK; clear hK K
  refine L_dec (i < n) (by simp) (fun hlt => ?_) (fun hge => L_exit ?_)
  · refine L_block ?_
    have hm32 := p32 h25 hmn
    have a3 := ldn_f d3
    have hor := n_or32 (P := Try.prog) (t := 53) (l := false) m z hm32 hz
    obtain ⟨y, hy⟩ : ∃ y, m ||| z = y := ⟨_, rfl⟩
    have hy32 : y < 4294967296 := by rw [← hy]; exact Nat.or_lt_two_pow (n := 32) hm32 hz
    have hybit : y.testBit i = (m.testBit i || z.testBit i) := by rw [← hy, Nat.testBit_or]
    have hor' : ∀ tt ll, binV Try.prog .or tt ll (.int .u32 (m : Int)) (.int .u32 (z : Int)) = some (.int .u32 (y : Int)) := fun tt ll => by rw [n_or32 m z hm32 hz, hy]
    have hOi : O i = !z.testBit i := by
      rw [← hO]
      show (decide (i < n) && !tb z i) = _
      rw [decide_eq_true hlt]; rfl
    have hcur : D r c 2 O S t i = m.testBit i := by rw [← htm]; rfl
    have hnx : D r c 2 O S (t + 1) i = (m.testBit i || (O i && decide (2 ≤ bes r c (tb m) i))) := by
      rw [D_succ, ← htm]
      show (m.testBit i || (decide (i < r * c) && (O i && _))) = _
      rw [hn, decide_eq_true hlt]; rfl
    obtain ⟨e, he⟩ : ∃ e, (!y.testBit i && decide (2 ≤ bes r c (tb m) i)) = e := ⟨_, rfl⟩
    refine L_reg [1, 2, 3, 7, 10, 11, 12, 35, 36] (fun K hK => ?_)
    simp
    apply hK; clear hK K
    refine L_reg [1, 2, 3, 7, 10, 11, 12, 35, 36, 52] (fun K hK => ?_)
    suffices hk : K [(1, .int .u32 m), (2, .int .u32 z), (3, .ptr H.length 0 0), (7, .slice (some w) 0 n ver 1 false), (10, .int .i64 (t + 1 : Nat)), (11, .int .u32 x), (12, .int .i64 i), (35, .int .i64 n), (36, .int .i64 i), (52, .bool e)] H3 by
      cases hyi : y.testBit i with
      | true =>
        rw [hyi] at he
        have he : false = e := he
        subst he
        simp [hor', n_shr' (k := .u32) y i (by simp [IntKind.bits]; omega), bit32 y i hy32, hyi, b1, pickV]
        exact hk
      | false =>
        rw [hyi] at he
        have e2 : decide ((1 : Int) < (bes r c (tb m) i : Nat)) = decide (2 ≤ bes r c (tb m) i) := decide_eq_decide.2 (by omega)
        have he : decide (2 ≤ bes r c (tb m) i) = e := by simpa using he
        simp [okFn_low, hor', n_shr' (k := .u32) y i (by simp [IntKind.bits]; omega), bit32 y i hy32, hyi, b1, a3]
        refine near_q hs hn i hlt m hm32 _ _ ?_
        simp [pickV]
        rw [e2, he]
        exact hk
    apply hK; clear hK K
    cases e with
    | true =>
      simp only [Bool.and_eq_true, Bool.not_eq_true', decide_eq_true_eq] at he
      obtain ⟨hy0, hb2⟩ := he
      rw [hybit, Bool.or_eq_false_iff] at hy0
      have hOt : O i = true := by rw [hOi, hy0.2]; rfl
      have g2 : D r c 2 O S (t + 1) i = true := by rw [hnx, hOt, decide_eq_true hb2]; simp
      have htn3 : t ≠ n := by
        intro e
        have := congrFun (D_fix (k := 2) (O := O) hSn) i
        rw [hn, ← e, g2, hcur, hy0.1] at this
        cases this
      have hst := st_l (x := (t : Int) + 1) dw hlt
      rw [dyj_t (by omega) (by rw [hcur, hy0.1]) g2] at hst
      have hshl : ∀ tt ll, binV Try.prog .shl tt ll (.int .u32 1) (.int .i64 (i : Int)) = some (.int .u32 ((1 <<< i : Nat) : Int)) := fun tt ll => n_shl32 i (by omega)
      have h1i : 1 <<< i < 4294967296 := by
        rw [Nat.shiftLeft_eq, Nat.one_mul]
        exact Nat.lt_of_lt_of_le (Nat.pow_lt_pow_right (by decide) (show i < 32 by omega)) (by decide)
      have hx32 := p32 h25 hxn
      obtain ⟨sh, hsh⟩ : ∃ sh, 1 <<< i = sh := ⟨_, rfl⟩
      rw [hsh] at h1i
      have hor2 : ∀ tt ll, binV Try.prog .or tt ll (.int .u32 (x : Int)) (.int .u32 (sh : Int)) = some (.int .u32 ((x ||| sh : Nat) : Int)) := fun tt ll => n_or32 x sh hx32 h1i
      simp only [hsh] at hshl
      refine L_true (by simp) ?_
      refine L_reg [1, 2, 3, 7, 10, 11, 12, 35, 36] (fun K hK => ?_)
      simp [hlt, hst]
      apply hK; clear hK K
      refine L_reg [1, 2, 3, 7, 10, 11, 35, 36] (fun K hK => ?_)
      simp [hshl, hor2]
      apply hK; clear hK K
      refine L_reg [1, 2, 3, 7, 10, 11, 35, 36] (fun K hK => ?_)
      simp [wrap_i64 (a := (i : Int) + 1) (by omega)]
      apply hK; clear hK K
      refine ⟨n - (i + 1), [.int .u32 (x ||| sh : Nat), .int .i64 (i + 1 : Nat)], by omega, by simp, i + 1, x ||| sh, min st i, rfl, by omega, rfl, ?_, by rw [← hsh]; exact or_lt hxn hlt, hE.set _ (by omega), ?_, get_set dw⟩
      · rw [← hsh, tb_upd, hx]
        exact nxp_succ_t (by rw [hOt, decide_eq_true hb2]; rfl)
      · rw [List.getElem?_set_ne (by omega)]; exact d3
    | false =>
      have hno : D r c 2 O S (t + 1) i = D r c 2 O S t i := by
        rw [hnx, hcur, hOi]
        rw [hybit] at he
        cases h1 : m.testBit i <;> cases h2 : z.testBit i <;> simp_all
      have hx2 : nxp r c 2 O (tb m) i = nxp r c 2 O (tb m) (i + 1) := by
        by_cases hmi : m.testBit i = true
        · funext b
          unfold nxp
          by_cases hb : b = i
          · subst hb
            have : tb m b = true := hmi
            simp [this]
          · have : (decide (b < i)) = decide (b < i + 1) := decide_eq_decide.2 (by omega)
            rw [this]
        · refine nxp_succ_f ?_
          rw [hybit] at he
          rw [hOi]
          cases h2 : z.testBit i <;> simp_all
      rw [dyj_f hno] at dw
      refine L_false (by simp) ?_
      refine L_reg [1, 2, 3, 7, 10, 11, 35, 36] (fun K hK => ?_)
      simp [wrap_i64 (a := (i : Int) + 1) (by omega)]
      apply hK; clear hK K
      exact ⟨n - (i + 1), [.int .u32 x, .int .i64 (i + 1 : Nat)], by omega, by simp, i + 1, x, st, rfl, by omega, rfl, by rw [hx, hx2], hxn, hE, d3, dw⟩
  have hie : i = n := by omega
  rw [hie] at hx dw
  have hx : tb x = D r c 2 O S (t + 1) := by
    rw [hx, htm, D_succ, ← nxp_all, hn]
  rw [dyj_end] at dw
  refine L_reg [2, 3, 7, 10, 11, 64] (fun K hK => ?_)
  simp
  apply hK; clear hK K
  by_cases hxm : x = m
  · have hst : D r c 2 O S (t + 1) = D r c 2 O S t := by rw [← hx, hxm, htm]
    refine L_true (by simp [hxm]) ?_
    refine L_reg [6] (fun K hK => ?_)
    simp
    apply hK; clear hK K
    have e5 : iL n (dyj r c O S (t + 1) 0) = iL n (day r c O S) := iL_ext fun b hb => by
      unfold dyj
      rw [if_neg (show ¬ b < 0 by omega)]
      refine dayT_end hSn (by rw [hn]; exact h25) b ?_
      rw [hst]
      exact sp_stop hSn hst
    rw [e5] at dw
    exact L_ret ⟨.inr rfl, _, rfl, h _ H3 (.inr ⟨w, ver, st, by omega, by simp [iL_len], dw⟩) hE⟩
  · have htn2 : t ≠ n := by
      intro e
      apply hxm
      apply tb_inj
      rw [hx, htm, e, ← hn, D_fix hSn]
    refine L_false (by simp; omega) ?_
    refine L_reg [1, 2, 3, 7, 10] (fun K hK => ?_)
    simp
    apply hK; clear hK K
    refine L_reg [1, 2, 3, 7, 10] (fun K hK => ?_)
    simp [wrap_i64 (a := (t : Int) + 1 + 1) (by omega)]
    apply hK; clear hK K
    exact ⟨n + 1 - (t + 1), [.int .u32 x, .int .i64 (t + 1 + 1 : Nat)], by omega, by simp <;> omega, t + 1, x, st, rfl, by omega, rfl, hx, hxn, hE, d3, dw⟩
end Go.Proofs.Ytfbpgnjeafadmaa.Fl

/- Spread, Days, Outline, Idle, Proves and Least. -/
namespace Go.Proofs.Ytfbpgnjeafadmaa.Fl
open Go Go.Proofs.Ytfbpgnjeafadmaa Go.Proofs.Ytfbpgnjeafadmaa.AX
set_option maxRecDepth 100000

def nilS : AV := .slice none 0 0 0 1 false
end Go.Proofs.Ytfbpgnjeafadmaa.Fl

/- Outline and Idle; lists that are the same. -/
namespace Go.Proofs.Ytfbpgnjeafadmaa.Fl
open Go Go.Proofs.Ytfbpgnjeafadmaa Go.Proofs.Ytfbpgnjeafadmaa.AX
set_option maxRecDepth 100000

theorem colS_mem {n : Nat} {T : Nat → Bool} : ∀ (l : List Int) (S : Nat → Bool), (colS n T S l).2 = 0 → (∀ b : Nat, (colS n T S l).1 b = true ↔ S b = true ∨ (b : Int) ∈ l) ∧ (∀ x ∈ l, 0 ≤ x ∧ x < n) ∧ (∀ x ∈ l, T x.toNat = false)
  | [], S, _ => ⟨fun b => by simp [colS], by simp, by simp⟩
  | x :: l, S, h => by
    simp only [colS] at h ⊢
    split at h
    · cases h
    · rename_i h1
      split at h
      · cases h
      · rename_i h2
        split at h
        · cases h
        · rename_i h3
          rw [if_neg h1, if_neg h2, if_neg h3]
          obtain ⟨g1, g2, g3⟩ := colS_mem l _ h
          refine ⟨fun b => ?_, fun y hy => ?_, fun y hy => ?_⟩
          · rw [g1 b]
            unfold upd
            simp only [List.mem_cons]
            constructor
            · rintro (h | h)
              · split at h
                · rename_i e; right; left; omega
                · exact .inl h
              · exact .inr (.inr h)
            · rintro (h | h | h)
              · left; split
                · rfl
                · exact h
              · left; rw [if_pos (by omega)]
              · exact .inr h
          · rcases List.mem_cons.1 hy with rfl | hy
            · omega
            · exact g2 y hy
          · rcases List.mem_cons.1 hy with rfl | hy
            · simpa using h3
            · exact g3 y hy
theorem colS_ok {n : Nat} {T : Nat → Bool} : ∀ (l : List Int) (S : Nat → Bool), (∀ x ∈ l, 0 ≤ x ∧ x < n) → l.Nodup → (∀ x ∈ l, S x.toNat = false ∧ T x.toNat = false) → (colS n T S l).2 = 0
  | [], S, _, _, _ => rfl
  | x :: l, S, h1, h2, h3 => by
    have a1 := h1 x (by simp)
    have a2 := h3 x (by simp)
    obtain ⟨b1, b2⟩ := List.nodup_cons.1 h2
    simp only [colS]
    rw [if_neg (by omega), if_neg (by simp [a2.1]), if_neg (by simp [a2.2])]
    refine colS_ok l _ (fun y hy => h1 y (by simp [hy])) b2 fun y hy => ⟨?_, (h3 y (by simp [hy])).2⟩
    unfold upd
    rw [if_neg]
    · exact (h3 y (by simp [hy])).1
    · intro e
      have := h1 y (by simp [hy])
      have e2 : y = x := by omega
      rw [e2] at hy
      exact b1 hy
theorem num_nodup (S : Nat → Bool) : (num S).Nodup := by
  unfold num
  exact List.Pairwise.map _ (fun a b (h : a ≠ b) => by omega) (List.Pairwise.filter _ List.nodup_range)
/-- A store of sets is one. -/
theorem chk_sets {r c n : Nat} {S Z : Nat → Bool} {l o : List Int} (hs : Sd r c) (hn : r * c = n) (hS : ∀ b, S b = true → b < n) (hZ : ∀ b, Z b = true → b < n) (hd : ∀ b, Z b = true → S b = false) (hl : l.Perm (num S)) (ho : o.Perm (num Z)) :
    chkE r c l o = 0 ∧ (sickS r c l).1 = S ∧ (coldS r c l o).1 = Z := by
  have h25 := hs.le
  have hok : okSides (r : Int) c := ⟨⟨by have := hs.r1; omega, by have := hs.r5; omega⟩, by have := hs.c1; omega, by have := hs.c5; omega⟩
  have e1 : (sickS r c l).2 = 0 := by
    unfold sickS
    rw [Int.toNat_natCast, Int.toNat_natCast, hn]
    refine colS_ok l _ (fun x hx => ?_) (hl.symm.nodup (num_nodup S)) (fun x hx => ⟨rfl, rfl⟩)
    obtain ⟨b, -, h2, rfl⟩ := mem_num.1 (hl.mem_iff.1 hx)
    have := hS b h2
    omega
  have e2 : (sickS r c l).1 = S := by
    funext b
    have h := (colS_mem l none' e1).1 b
    have h : (sickS r c l).1 b = true ↔ none' b = true ∨ (b : Int) ∈ l := h
    rw [hl.mem_iff, mem_num] at h
    cases hSb : S b with
    | true => exact h.2 (.inr ⟨b, by have := hS b hSb; omega, hSb, rfl⟩)
    | false =>
      cases h2 : (sickS r c l).1 b with
      | false => rfl
      | true =>
        rcases h.1 h2 with h3 | ⟨x, -, h4, h5⟩
        · simp [none'] at h3
        · have : x = b := by omega
          subst this
          rw [hSb] at h4; cases h4
  have e3 : (coldS r c l o).2 = 0 := by
    unfold coldS
    rw [Int.toNat_natCast, Int.toNat_natCast, hn, e2]
    refine colS_ok o _ (fun x hx => ?_) (ho.symm.nodup (num_nodup Z)) (fun x hx => ⟨rfl, ?_⟩)
    · obtain ⟨b, -, h2, rfl⟩ := mem_num.1 (ho.mem_iff.1 hx)
      have := hZ b h2
      omega
    · obtain ⟨b, -, h2, rfl⟩ := mem_num.1 (ho.mem_iff.1 hx)
      rw [Int.toNat_natCast]
      exact hd b h2
  have e4 : (coldS r c l o).1 = Z := by
    funext b
    have h := (colS_mem o none' e3).1 b
    have h : (coldS r c l o).1 b = true ↔ none' b = true ∨ (b : Int) ∈ o := h
    rw [ho.mem_iff, mem_num] at h
    cases hSb : Z b with
    | true => exact h.2 (.inr ⟨b, by have := hZ b hSb; omega, hSb, rfl⟩)
    | false =>
      cases h2 : (coldS r c l o).1 b with
      | false => rfl
      | true =>
        rcases h.1 h2 with h3 | ⟨x, -, h4, h5⟩
        · simp [none'] at h3
        · have : x = b := by omega
          subst this
          rw [hSb] at h4; cases h4
  exact ⟨(chk_ok hok e1 e3).1, e2, e4⟩
/-- Two lists compared. -/
theorem same_q (u v : AV) (a b : List Int) (H : AH) (Q : AV → AH → Prop) (hu : Ls H u a) (hv : Ls H v b) (ha : a.length ≤ 1000000) (_hb : b.length ≤ 1000000) (h : Q (.bool (decide (a = b))) H) : AC Try.prog 24 [u, v] H Q := by
  refine L_body 26 Try.func24 rfl rfl ?_
  have l1 := ls_len hu
  have l2 := ls_len hv
  refine L_reg [0, 1] (fun K hK => ?_)
  simp
  apply hK; clear hK K
  refine L_reg [0, 1, 10] (fun K hK => ?_)
  simp [l1, l2]
  apply hK; clear hK K
  by_cases hl : a.length = b.length
  case neg =>
    have : ¬ a = b := fun e => hl (by rw [e])
    rw [decide_eq_false this] at h
    refine L_true (by simp; omega) ?_
    refine L_reg [4] (fun K hK => ?_)
    simp
    apply hK; clear hK K
    exact L_ret ⟨.inr rfl, _, rfl, h⟩
  refine L_false (by simp; omega) ?_
  refine L_reg [0, 1, 5] (fun K hK => ?_)
  simp
  apply hK; clear hK K
  refine L_block (L_loopV [5] (fun q vs H' => ∃ i : Nat, q = a.length - i ∧ i ≤ a.length ∧ vs = [.int .i64 i] ∧ H = H' ∧ a.take i = b.take i) _ [.int .i64 (0 : Nat)] rfl ⟨0, rfl, by omega, rfl, rfl, rfl⟩ ?_)
  rintro q _ _ ⟨i, rfl, hi, rfl, rfl, he⟩
  refine L_reg [0, 1, 5, 14] (fun K hK => ?_)
  simp [l1]
  apply hK; clear hK K
  refine L_dec (i < a.length) (by simp) (fun hlt => ?_) (fun hge => L_exit ?_)
  · refine L_block ?_
    obtain ⟨r1, p1, v1, x1, y1⟩ := ls_ix hu hlt
    obtain ⟨r2, p2, v2, x2, y2⟩ := ls_ix hv (i := i) (by omega)
    refine L_regT mixed [0, 1, 5, 25] (by kernel_rfl) (fun K hK => ?_)
    simp [x1, x2, y1, y2]
    apply hK; clear hK K
    by_cases hg : g a i = g b i
    · refine L_false (by simp [hg]) ?_
      refine L_reg [0, 1, 5] (fun K hK => ?_)
      simp [wrap_i64 (a := (i : Int) + 1) (by omega)]
      apply hK; clear hK K
      refine ⟨a.length - (i + 1), [.int .i64 (i + 1 : Nat)], by omega, by simp, i + 1, rfl, by omega, rfl, rfl, ?_⟩
      rw [List.take_add_one, List.take_add_one, he, List.getElem?_eq_getElem hlt, List.getElem?_eq_getElem (show i < b.length by omega), ← g_lt hlt, ← g_lt (show i < b.length by omega), hg]
    · have : ¬ a = b := fun e => hg (by rw [e])
      rw [decide_eq_false this] at h
      refine L_true (by simp [hg]) ?_
      refine L_reg [4] (fun K hK => ?_)
      simp
      apply hK; clear hK K
      exact L_ret ⟨.inr rfl, _, rfl, h⟩
  · have e : i = a.length := by omega
    rw [e, List.take_length, hl, List.take_length] at he
    rw [decide_eq_true he] at h
    refine L_reg [4] (fun K hK => ?_)
    simp
    apply hK; clear hK K
    exact L_ret ⟨.inr rfl, _, rfl, h⟩
def idleB (r c n : Nat) (S Z : Nat → Bool) (b : Nat) : Bool := (List.range 25).all fun i => sp r c 2 (opn n Z) (upd S b false) i == sp r c 2 (opn n Z) S i
def idT (r c n : Nat) (S Z : Nat → Bool) (l : List Int) (j b : Nat) : Bool := decide ((b : Int) ∈ l.take j) && idleB r c n S Z b
theorem Idle_ac (m k : Int) (u w : AV) (l o : List Int) (H : AH) (Q : AV → AH → Prop) (hu : Ls H u l) (hw : Ls H w o) (hl : l.length ≤ 1000000) (ho : o.length ≤ 1000000)
    (he : chkE m k l o ≠ 0 → ∀ H', Ext H H' → Q (.tuple [.slice none 0 0 0 1 false, .int .i64 (chkE m k l o)]) H')
    (hq : chkE m k l o = 0 → ∀ v' H', OwnN H.length H' v' (num fun b => (sickS m k l).1 b && idleB m.toNat k.toNat (m.toNat * k.toNat) (sickS m k l).1 (coldS m k l o).1 b) → Ext H H' → Q (.tuple [v', .int .i64 0]) H') :
    AC Try.prog 29 [.agg [.int .i64 m, .int .i64 k, u, w]] H Q := by
  refine L_body 32 Try.func29 rfl rfl ?_
  obtain ⟨J, hJ, hy⟩ := zeroT_some zt81'
  obtain ⟨I, hI, hz⟩ := zeroT_some zt79'
  have hS0 := sickS_sup m k l
  refine L_reg [1] (fun K hK => ?_)
  simp [AV.isU, acells]
  apply hK; clear hK K
  have b2 : (H ++ [AObj.row [.int .i64 m, .int .i64 k, u, w] 0 0 false])[H.length]? = some (.row [.int .i64 m, .int .i64 k, u, w] 0 0 false) := by simp
  have hL : (H ++ [AObj.row [.int .i64 m, .int .i64 k, u, w] 0 0 false]).length = H.length + 1 := by simp
  have hE : Ext H (H ++ [AObj.row [.int .i64 m, .int .i64 k, u, w] 0 0 false]) := .push _ _
  generalize H ++ [AObj.row [.int .i64 m, .int .i64 k, u, w] 0 0 false] = H1 at b2 hL hE ⊢
  have a2 := ldn4 b2 (ls_known hu) (ls_known hw)
  refine L_reg [1, 4, 5] (fun K hK => ?_)
  simp [okFn_low, a2]
  refine checked_q m k u w l o _ _ (hu.ext hE) (hw.ext hE) hl ho ?_
  simp [hJ, hy, new81F]
  apply hK; clear hK K
  have b6 : (H1 ++ [AObj.row (chkF m k l o) 0 0 false])[H.length + 1]? = some (.row (chkF m k l o) 0 0 false) := by rw [← hL]; simp
  have hE2 : Ext H1 (H1 ++ [AObj.row (chkF m k l o) 0 0 false]) := .push _ _
  have hL2 : (H1 ++ [AObj.row (chkF m k l o) 0 0 false]).length = H.length + 2 := by simp [hL]
  rw [hL]
  replace hE := hE.trans hE2
  replace b2 := hE2.row b2
  clear a2 hE2
  generalize H1 ++ [AObj.row (chkF m k l o) 0 0 false] = H2 at b2 b6 hE hL2 ⊢
  refine L_reg [1, 4, 5, 15] (fun K hK => ?_)
  simp
  apply hK; clear hK K
  by_cases hc0 : chkE m k l o = 0
  case neg =>
    refine L_true (by simp [hc0]) ?_
    refine L_reg [2, 3] (fun K hK => ?_)
    simp
    apply hK; clear hK K
    exact L_ret ⟨.inr rfl, _, rfl, he hc0 _ hE⟩
  refine L_false (by simp [hc0]) ?_
  have hmem := colS_mem (n := m.toNat * k.toNat) (T := none') l none' (by
    have hok := chk_sides hc0
    unfold chkE at hc0
    rw [if_pos hok] at hc0
    split at hc0
    · rename_i h; exact absurd hc0 h
    · rename_i h; simpa [sickS] using h)
  have hmem1 : ∀ b : Nat, (sickS m k l).1 b = true ↔ (b : Int) ∈ l := fun b => by
    have := hmem.1 b
    simpa [sickS, none'] using this
  have hmem2 := hmem.2.1
  clear hmem
  rw [chk_F hc0] at b6
  have hs := (chk_sides hc0).sd
  replace hq := hq hc0
  clear he hc0
  generalize (sickS m k l).1 = S at *
  generalize (coldS m k l o).1 = Z at *
  have hue := hu.ext hE
  generalize hr : m.toNat = r at *
  generalize hc : k.toNat = c at *
  obtain ⟨n, hn⟩ : ∃ n, r * c = n := ⟨_, rfl⟩
  have h25 := hs.le
  rw [hn] at hq h25 hS0 hmem2
  refine L_reg [1, 4, 6] (fun K hK => ?_)
  simp [hI, hz]
  apply hK; clear hK K
  have b7 : (H2 ++ [AObj.row (bA none') 0 0 false])[H.length + 2]? = some (.row (bA (idT r c n S Z l 0)) 0 0 false) := by
    have : bA (idT r c n S Z l 0) = bA none' := bA_ext fun b _ => by simp [idT, none']
    rw [this, ← hL2]; simp
  have hE2 : Ext H2 (H2 ++ [AObj.row (bA none') 0 0 false]) := .push _ _
  rw [hL2]
  replace b2 := hE2.row b2
  replace b6 := hE2.row b6
  replace hE := hE.trans hE2
  have hv := hue.ext hE2
  clear hE2 hue
  generalize H2 ++ [AObj.row (bA none') 0 0 false] = H3 at b2 b6 b7 hE hv ⊢
  have a2 : ld H3 H.length 2 0 = some u := by
    rw [ld_row b2]
    obtain ⟨a, b, c, d, e, rfl, -⟩ := hu
    rfl
  refine L_reg [4, 6, 18, 19, 20] (fun K hK => ?_)
  simp [a2, ls_len hv]
  apply hK; clear hK K
  refine L_block (L_loopV [20] (fun q vs H' => ∃ (j s : Nat), q = l.length - j ∧ j ≤ l.length ∧ vs = [.int .i64 j] ∧ Ext H H' ∧ H'[H.length + 1]? = some (.row (fl r c S Z) 0 0 false) ∧ H'[H.length + 2]? = some (.row (bA (idT r c n S Z l j)) 0 s false)) _ [.int .i64 (0 : Nat)] rfl ⟨0, 0, rfl, by omega, rfl, hE, b6, b7⟩ ?_)
  clear b2 b6 b7 hE hv a2 H3
  rintro q _ H3 ⟨j, s, rfl, hj, rfl, hE, b6, b7⟩
  have hv := hu.ext hE
  refine L_reg [4, 6, 18, 19, 20, 21] (fun K hK => ?_)
  simp
  apply hK; clear hK K
  refine L_dec (j < l.length) (by simp) (fun hlt => ?_) (fun hge => L_exit ?_)
  · refine L_block ?_
    obtain ⟨rz, pz, vz, hix, hldz⟩ := ls_ix hv hlt
    obtain ⟨x1, x2⟩ := hmem2 (g l j) (by rw [g_lt hlt]; simp)
    obtain ⟨b, hb⟩ : ∃ b : Nat, g l j = b := ⟨(g l j).toNat, by omega⟩
    rw [hb] at hldz x1 x2
    have hbn : b < n := by omega
    have hb25 : b < 25 := by omega
    have hbi : (b : Int) < 25 := by omega
    have a6 := ldn_F b6
    have hst := st_b (v := idleB r c n S Z b) b7 hb25
    have hup : upd (idT r c n S Z l j) b (idleB r c n S Z b) = idT r c n S Z l (j + 1) := by
      funext x
      unfold upd idT
      rw [List.take_add_one, List.getElem?_eq_getElem hlt, ← g_lt hlt, hb]
      by_cases hx : x = b
      · subst hx; simp
      · rw [if_neg hx]
        have : decide ((x : Int) ∈ List.take j l ++ (some (b : Int)).toList) = decide ((x : Int) ∈ List.take j l) := decide_eq_decide.2 (by simp; omega)
        rw [this]
    rw [hup] at hst
    have hst : storeV Try.prog 4 H3 (.ptr (H.length + 2) b 0) (.bool ((List.range 25).all fun i => sp r c 2 (opn n Z) (upd S b false) i == sp r c 2 (opn n Z) S i)) = some (none, H3.set (H.length + 2) (.row (bA (idT r c n S Z l (j + 1))) 0 (min s b) false)) := hst
    refine L_reg [4, 6, 8, 18, 19, 20] (fun K hK => ?_)
    simp [hix, hldz]
    apply hK; clear hK K
    refine L_reg [4, 6, 18, 19, 20] (fun K hK => ?_)
    simp [okFn_low, a6]
    refine idle_q hs hn S Z hS0 b hbn _ _ ?_
    simp [hbi, hst]
    apply hK; clear hK K
    refine L_reg [4, 6, 18, 19, 20] (fun K hK => ?_)
    simp [wrap_i64 (a := (j : Int) + 1) (by omega)]
    apply hK; clear hK K
    refine ⟨l.length - (j + 1), [.int .i64 (j + 1 : Nat)], by omega, by simp, j + 1, min s b, rfl, by omega, rfl, hE.set _ (by omega), ?_, get_set b7⟩
    rw [List.getElem?_set_ne (by omega)]; exact b6
  · have e : j = l.length := by omega
    rw [e] at b7
    have e2 : num (idT r c n S Z l l.length) = num fun b => S b && idleB r c n S Z b := by
      unfold num
      congr 1
      refine List.filter_congr fun b _ => ?_
      unfold idT
      rw [List.take_length]
      congr 1
      have := hmem1 b
      cases hSb : S b with
      | true => exact decide_eq_true (this.1 hSb)
      | false => exact decide_eq_false fun h => by rw [this.2 h] at hSb; cases hSb
    have a7 := ldn_b b7
    refine L_reg [2, 3] (fun K hK => ?_)
    simp [okFn_low, a7]
    refine list_ac _ _ _ (fun v H4 hN hE4 => ?_)
    rw [e2] at hN
    simp
    apply hK; clear hK K
    refine L_ret ⟨.inr rfl, _, rfl, hq v H4 ⟨hN.1, ownF_less hN.2 (by have := hE.1; omega)⟩ (hE.trans hE4)⟩
end Go.Proofs.Ytfbpgnjeafadmaa.Fl

/- The law's spread and outline; slices.Reverse. -/
namespace Go.Proofs.Ytfbpgnjeafadmaa.Fl
open Go Go.Proofs.Ytfbpgnjeafadmaa Go.Proofs.Ytfbpgnjeafadmaa.AX
set_option maxRecDepth 100000

/-- A set as a number. -/
def mOf (S : Nat → Bool) : Nat → Nat
  | 0 => 0
  | n + 1 => if S n then mOf S n ||| 1 <<< n else mOf S n
theorem mOf_tb (S : Nat → Bool) (b : Nat) : ∀ n, (mOf S n).testBit b = (decide (b < n) && S b)
  | 0 => by simp [mOf]
  | n + 1 => by
    have ih := mOf_tb S b n
    unfold mOf
    by_cases hb : b = n
    · subst hb
      have e : decide (b < b) = false := by simp
      rw [e] at ih
      have e2 : decide (b < b + 1) = true := by simp
      rw [e2]
      cases hs : S b with
      | true => rw [if_pos rfl, Nat.testBit_or, bit1]; simp
      | false => rw [if_neg (by decide), ih]; rfl
    · have e : decide (b < n + 1) = decide (b < n) := decide_eq_decide.2 (by omega)
      rw [e, ← ih]
      split
      · rw [Nat.testBit_or, bit1, decide_eq_false (fun h => hb h.symm), Bool.or_false]
      · rfl
theorem mOf_fun {S : Nat → Bool} {n : Nat} (h : ∀ b, S b = true → b < n) : tb (mOf S n) = S := by
  funext b
  show (mOf S n).testBit b = S b
  rw [mOf_tb]
  cases hs : S b with
  | true => rw [decide_eq_true (h b hs)]; rfl
  | false => simp
theorem mOf_lt (S : Nat → Bool) : ∀ {n m : Nat}, n ≤ m → mOf S n < 2 ^ m
  | 0, m, _ => by simp [mOf]; exact Nat.two_pow_pos m
  | n + 1, m, h => by
    unfold mOf
    split
    · exact or_lt (mOf_lt S (by omega)) (by omega)
    · exact mOf_lt S (by omega)
theorem day_sp {r c : Nat} {O S : Nat → Bool} (hS : ∀ b, S b = true → b < r * c) (h25 : r * c ≤ 25) (b : Nat) : (0 ≤ day r c O S b) ↔ sp r c 2 O S b = true := by
  have h := day_iff (t := 25) (b := b) (r := r) (c := c) (O := O) (S := S) (by omega)
  rw [D_end hS h25] at h
  constructor
  · intro h0; exact h.1 ⟨h0, (day_range b).2⟩
  · intro h0; exact (h.2 h0).1
theorem lspread_q {r c n : Nat} (hs : Sd r c) (hn : r * c = n) (s z : Nat) (hsn : s < 2 ^ n) (hz : z < 4294967296) (H : AH) (Q : AV → AH → Prop) (h : Q (.int .u32 (mOf (sp r c 2 (opn n (tb z)) (tb s)) n : Nat)) H) : AC Try.prog 42 [.agg [.int .i64 r, .int .i64 c], .int .u32 s, .int .u32 z] H Q := by
  refine AC.quiet (belB_int _ _ _ _) (fun Q h => ?_) Q h
  have h25 := hs.le
  rw [hn] at h25
  have hSn : ∀ b, tb s b = true → b < r * c := by rw [hn]; exact tb_lt hsn
  refine L_body 28 Try.func42 rfl rfl ?_
  refine L_reg [1, 2, 3] (fun K hK => ?_)
  simp [AV.isU, acells]
  apply hK; clear hK K
  have d3 : (H ++ [AObj.row [.int .i64 r, .int .i64 c] 0 0 false])[H.length]? = some (.row [.int .i64 r, .int .i64 c] 0 0 false) := by simp
  have hE : Ext H (H ++ [AObj.row [.int .i64 r, .int .i64 c] 0 0 false]) := .push _ _
  generalize H ++ [AObj.row [.int .i64 r, .int .i64 c] 0 0 false] = H1 at d3 hE ⊢
  have a3 := ldn_f d3
  refine L_reg [1, 2, 3, 7] (fun K hK => ?_)
  simp
  apply hK; clear hK K
  refine L_reg [7, 13, 14, 15] (fun K hK => ?_)
  simp [okFn_low, a3]
  refine ldays_ac hs hn s z hsn hz _ _ (fun v H2 hO hE2 => ?_)
  have hv := ownF_ls hO
  have hl := ls_len hv
  rw [iL_len] at hl
  simp [hl]
  apply hK; clear hK K
  replace hE := hE.trans hE2
  clear a3 hE2 d3 hl hO
  have hO' : ∀ b, 0 ≤ day r c (opn n (tb z)) (tb s) b ↔ sp r c 2 (opn n (tb z)) (tb s) b = true := day_sp hSn (by rw [hn]; exact h25)
  generalize sp r c 2 (opn n (tb z)) (tb s) = A at *
  generalize day r c (opn n (tb z)) (tb s) = f at *
  refine L_block (L_loopV [7, 15] (fun q vs H' => ∃ i : Nat, q = n - i ∧ i ≤ n ∧ vs = [.int .u32 (mOf A i : Nat), .int .i64 i] ∧ H2 = H') _ [.int .u32 (mOf A 0 : Nat), .int .i64 (0 : Nat)] rfl ⟨0, rfl, by omega, rfl, rfl⟩ ?_)
  rintro q _ _ ⟨i, rfl, hi, rfl, rfl⟩
  refine L_reg [7, 13, 14, 15, 16] (fun K hK => ?_)
  simp
  apply hK; clear hK K
  refine L_dec (i < n) (by simp) (fun hlt => ?_) (fun hge => L_exit ?_)
  · refine L_block ?_
    obtain ⟨rz, pz, vz, hix, hldz⟩ := ls_ix hv (i := i) (by rw [iL_len]; exact hlt)
    rw [iL_g f hlt] at hldz
    have hm25 : mOf A i < 2 ^ n := mOf_lt A hi
    have hm32 := p32 h25 hm25
    have hstep : mOf A (i + 1) = if A i then mOf A i ||| 1 <<< i else mOf A i := rfl
    obtain ⟨x, hx⟩ : ∃ x, mOf A i = x := ⟨_, rfl⟩
    rw [hx] at hm32 hstep
    rw [hx]
    refine L_reg [7, 8, 9, 13, 14, 15] (fun K hK => ?_)
    simp [hix, hldz]
    apply hK; clear hK K
    refine L_reg [7, 8, 13, 14, 15, 21] (fun K hK => ?_)
    simp
    apply hK; clear hK K
    by_cases hfi : 0 ≤ f i
    · have hA : A i = true := (hO' i).1 hfi
      rw [hA, if_pos rfl] at hstep
      have hshl : ∀ tt ll, binV Try.prog .shl tt ll (.int .u32 1) (.int .i64 (i : Int)) = some (.int .u32 ((1 <<< i : Nat) : Int)) := fun tt ll => n_shl32 i (by omega)
      have h1i : 1 <<< i < 4294967296 := by
        rw [Nat.shiftLeft_eq, Nat.one_mul]
        exact Nat.lt_of_lt_of_le (Nat.pow_lt_pow_right (by decide) (show i < 32 by omega)) (by decide)
      obtain ⟨sh, hsh⟩ : ∃ sh, 1 <<< i = sh := ⟨_, rfl⟩
      rw [hsh] at h1i hstep
      have hor2 : ∀ tt ll, binV Try.prog .or tt ll (.int .u32 (x : Int)) (.int .u32 (sh : Int)) = some (.int .u32 ((x ||| sh : Nat) : Int)) := fun tt ll => n_or32 x sh hm32 h1i
      simp only [hsh] at hshl
      refine L_true (by simp [hfi]) ?_
      refine L_reg [7, 13, 14, 15] (fun K hK => ?_)
      simp [hshl, hor2]
      apply hK; clear hK K
      refine L_reg [7, 13, 14, 15] (fun K hK => ?_)
      simp [wrap_i64 (a := (i : Int) + 1) (by omega)]
      apply hK; clear hK K
      exact ⟨n - (i + 1), [.int .u32 (x ||| sh : Nat), .int .i64 (i + 1 : Nat)], by omega, by simp, i + 1, rfl, by omega, by rw [hstep], rfl⟩
    · have hA : A i = false := by
        cases h : A i with
        | false => rfl
        | true => exact absurd ((hO' i).2 h) hfi
      rw [hA, if_neg (by decide)] at hstep
      refine L_false (by simp; omega) ?_
      refine L_reg [7, 13, 14, 15] (fun K hK => ?_)
      simp [wrap_i64 (a := (i : Int) + 1) (by omega)]
      apply hK; clear hK K
      exact ⟨n - (i + 1), [.int .u32 x, .int .i64 (i + 1 : Nat)], by omega, by simp, i + 1, rfl, by omega, by rw [hstep], rfl⟩
  · have e : i = n := by omega
    subst e
    refine L_reg [6] (fun K hK => ?_)
    simp
    apply hK; clear hK K
    exact L_ret ⟨.inr rfl, _, rfl, h _ hE⟩
/-- A list that is turned round at both ends. -/
def rv (l : List Int) (i k : Nat) : Int := if k < i ∨ l.length ≤ k + i then g l (l.length - 1 - k) else g l k
theorem iL_self (l : List Int) : iL l.length (g l) = l := by
  refine List.ext_getElem? fun i => ?_
  by_cases hi : i < l.length
  · rw [iL_get _ hi, List.getElem?_eq_getElem hi, g_lt hi]
  · rw [List.getElem?_eq_none (by rw [iL_len]; omega), List.getElem?_eq_none (by omega)]
theorem rv_zero (l : List Int) : iL l.length (rv l 0) = l := by
  rw [show iL l.length (rv l 0) = iL l.length (g l) from iL_ext fun b hb => by unfold rv; rw [if_neg (by omega)], iL_self]
theorem rv_end {l : List Int} {i : Nat} (h : l.length ≤ 2 * i + 1) : iL l.length (rv l i) = l.reverse := by
  refine List.ext_getElem? fun k => ?_
  by_cases hk : k < l.length
  · rw [iL_get _ hk, List.getElem?_reverse hk, List.getElem?_eq_getElem (by omega), ← g_lt (by omega)]
    unfold rv
    split
    · rfl
    · rw [show l.length - 1 - k = k by omega]
  · rw [List.getElem?_eq_none (by rw [iL_len]; omega), List.getElem?_eq_none (by rw [List.length_reverse]; omega)]
theorem rv_succ {l : List Int} {i j : Nat} (hj : i + 1 + j = l.length) (hij : i < j) : iL l.length (updI (updI (rv l i) i (rv l i j)) j (rv l i i)) = iL l.length (rv l (i + 1)) := by
  refine iL_ext fun k hk => ?_
  unfold updI rv
  rw [if_neg (show ¬ (j < i ∨ l.length ≤ j + i) by omega), if_neg (show ¬ (i < i ∨ l.length ≤ i + i) by omega)]
  by_cases h1 : k = j
  · subst h1
    rw [if_pos rfl, if_pos (by omega), show l.length - 1 - k = i by omega]
  · rw [if_neg h1]
    by_cases h2 : k = i
    · subst h2
      rw [if_pos rfl, if_pos (by omega), show l.length - 1 - k = j by omega]
    · rw [if_neg h2]
      by_cases h3 : k < i ∨ l.length ≤ k + i
      · rw [if_pos h3, if_pos (by omega)]
      · rw [if_neg h3, if_neg (by omega)]
theorem reverse_ac (w ver s : Nat) (l : List Int) (H : AH) (Q : AV → AH → Prop) (hw : H[w]? = some (.row (l.map (.int .i64)) ver s false)) (hl : l.length ≤ 1000000) (h : ∀ s', Q (.tuple []) (H.set w (.row (l.reverse.map (.int .i64)) ver s' false))) : AC Try.prog 84 [.slice (some w) 0 l.length ver 1 false] H Q := by
  refine L_body 28 Try.func84 rfl rfl ?_
  obtain ⟨n, hn⟩ : ∃ n, l.length = n := ⟨_, rfl⟩
  have hww : IntKind.i64.wrap ((n : Int) - 1) = (n : Int) - 1 := wrap_i64 (by omega)
  have hz := rv_zero l
  rw [← hz] at hw
  have hHs : H.set w (.row ((iL l.length (rv l 0)).map (.int .i64)) ver s false) = H := by
    apply List.ext_getElem?
    intro j
    rw [List.getElem?_set]
    split
    · rename_i e; subst e
      rw [hw, if_pos (List.getElem?_eq_some_iff.1 hw).1]
    · rfl
  have hwl : w < H.length := (List.getElem?_eq_some_iff.1 hw).1
  have hsucc := @rv_succ l
  have hend := @rv_end l
  rw [hn] at hw hHs hsucc hend ⊢
  refine L_reg [0, 2, 3] (fun K hK => ?_)
  simp [hww]
  apply hK; clear hK K
  refine L_block (L_loopV [2, 3] (fun q vs H' => ∃ (i s' : Nat), q = n - i ∧ 2 * i ≤ n + 1 ∧ i ≤ n ∧ vs = [.int .i64 i, .int .i64 ((n : Int) - 1 - i)] ∧ H' = H.set w (.row ((iL n (rv l i)).map (.int .i64)) ver s' false)) _ [.int .i64 (0 : Nat), .int .i64 ((n : Int) - 1)] rfl ⟨0, s, rfl, by omega, by omega, by simp, hHs.symm⟩ ?_)
  rintro q _ H1 ⟨i, s', rfl, h2i, hin, rfl, hH1⟩
  have hrow : H1[w]? = some (.row ((iL n (rv l i)).map (.int .i64)) ver s' false) := by rw [hH1]; simp [hwl]
  refine L_reg [0, 2, 3, 9] (fun K hK => ?_)
  simp
  apply hK; clear hK K
  refine L_dec ((i : Int) < (n : Int) - 1 - i) (by simp) (fun hlt => ?_) (fun hge => L_exit ?_)
  · obtain ⟨j, hj⟩ : ∃ j : Nat, n = i + 1 + j := ⟨n - i - 1, by omega⟩
    have hji : (n : Int) - 1 - i = (j : Int) := by omega
    have hld : ∀ x, x < n → ld H1 w x ver = some (.int .i64 (rv l i x)) := by
      intro x hx
      rw [ld_row hrow, List.getElem?_map, iL_get _ hx]; rfl
    have hx := hld i (by omega)
    have hy := hld j (by omega)
    have e1 := st_l (x := rv l i j) hrow (show i < n by omega)
    have hr2 := get_set (o' := .row ((iL n (updI (rv l i) i (rv l i j))).map (.int .i64)) ver (min s' i) false) hrow
    have e2 := st_l (x := rv l i i) hr2 (show j < n by omega)
    have hss := hsucc (i := i) (j := j) (by omega) (by omega)
    rw [hss] at e2
    have g1 : i < n := by omega
    have g2 : j < n := by omega
    refine L_block ?_
    rw [hji]
    refine L_regT mixed [0, 2, 3] (by kernel_rfl) (fun K hK => ?_)
    simp [g1, g2, hx, hy, e1, e2]
    apply hK; clear hK K
    refine L_reg [0, 2, 3] (fun K hK => ?_)
    simp [wrap_i64 (a := (i : Int) + 1) (by omega), wrap_i64 (a := (j : Int) - 1) (by omega)]
    apply hK; clear hK K
    refine ⟨n - (i + 1), [.int .i64 (i + 1 : Nat), .int .i64 ((n : Int) - 1 - (i + 1 : Nat))], by omega, by simp; omega, i + 1, min s' (min i j), rfl, by omega, by omega, rfl, ?_⟩
    rw [hH1, List.set_set]
  · have := hend (i := i) (by omega)
    rw [this] at hH1
    exact ⟨.inl rfl, _, rfl, by rw [hH1]; exact h s'⟩
end Go.Proofs.Ytfbpgnjeafadmaa.Fl

/- Stores by numbers. -/
namespace Go.Proofs.Ytfbpgnjeafadmaa.Fl
open Go Go.Proofs.Ytfbpgnjeafadmaa Go.Proofs.Ytfbpgnjeafadmaa.AX
set_option maxRecDepth 100000

def lsV (H : AH) (l : List Int) : AV := match l with | [] => .slice none 0 0 0 1 false | _ :: _ => .slice (some H.length) 0 l.length 0 1 false
def lsH (H : AH) (l : List Int) : AH := match l with | [] => H | _ :: _ => H ++ [.row (l.map (.int .i64)) 0 l.length false]
theorem AC.tidyL {P : Program} {f : FuncId} {args : List AV} {l : List Int} {H : AH} (h : ∀ Q : AV → AH → Prop, (∀ v' H', OwnN H.length H' v' l → Ext H H' → Q v' H') → AC P f args H Q) (Q : AV → AH → Prop) (hq : Q (lsV H l) (lsH H l)) : AC P f args H Q := by
  cases l with
  | nil =>
    refine AC.quiet (v := .slice none 0 0 0 1 false) rfl (fun Q h2 => h Q fun v' H' hO hE => ?_) Q hq
    rw [hO.1 rfl]; exact h2 H' hE
  | cons x l =>
    refine AC.tidy (l := (x :: l).map (.int .i64)) (by simp) (belB_ints _ _) (fun Q h2 => h Q fun v' H' hO hE => h2 v' H' hO.2 hE) Q ?_
    simpa [lsV, lsH] using hq
def rowOf : AV → Option Nat
  | .slice (some r) _ _ _ _ _ => some r
  | _ => none
theorem ownF_row {N : Nat} {H : AH} {v : AV} {l : List AV} (h : OwnF N H v l) {j : Nat} (hj : rowOf v = some j) : N ≤ j := by
  rcases h with ⟨-, rfl⟩ | ⟨r, ver, s, h1, rfl, -⟩
  · cases hj
  · cases hj; exact h1
theorem ownF_at {N : Nat} {H H' : AH} {v : AV} {l : List AV} (h : OwnF N H v l) (he : ∀ j, rowOf v = some j → H'[j]? = H[j]?) : OwnF N H' v l := by
  rcases h with h | ⟨r, ver, s, h1, rfl, h3⟩
  · exact .inl h
  · exact .inr ⟨r, ver, s, h1, rfl, by rw [he r rfl]; exact h3⟩
theorem reverse_own (N : Nat) (v : AV) (l : List Int) (H : AH) (Q : AV → AH → Prop) (hO : OwnF N H v (l.map (.int .i64))) (hl : l.length ≤ 1000000) (h : ∀ H', OwnF N H' v (l.reverse.map (.int .i64)) → (∀ j, rowOf v ≠ some j → H'[j]? = H[j]?) → H'.length = H.length → Q (.tuple []) H') : AC Try.prog 84 [v] H Q := by
  rcases hO with ⟨h1, rfl⟩ | ⟨w, ver, s, h1, rfl, h3⟩
  · have hnil : l = [] := by simpa using h1
    subst hnil
    have hww : IntKind.i64.wrap ((0 : Int) - 1) = -1 := wrap_i64 (by omega)
    refine L_body 28 Try.func84 rfl rfl ?_
    refine L_reg [0, 2, 3] (fun K hK => ?_)
    simp [wrap_i64 (a := (-1 : Int)) (by omega)]
    apply hK; clear hK K
    refine L_block (L_loopV [2, 3] (fun q vs H' => q = 0 ∧ vs = [.int .i64 0, .int .i64 (-1)] ∧ H = H') 0 [.int .i64 0, .int .i64 (-1)] rfl ⟨rfl, rfl, rfl⟩ ?_)
    rintro q _ _ ⟨rfl, rfl, rfl⟩
    refine L_reg [0, 2, 3, 9] (fun K hK => ?_)
    simp
    apply hK; clear hK K
    refine L_false (by simp) ?_
    refine L_exit ?_
    exact ⟨.inl rfl, _, rfl, h H (OwnF.nil _ _) (fun _ _ => rfl) rfl⟩
  · rw [List.length_map]
    refine reverse_ac w ver s l H Q h3 hl fun s' => h _ ?_ (fun j hj => ?_) (by simp)
    · exact .inr ⟨w, ver, s', h1, by simp, get_set h3⟩
    · rw [List.getElem?_set_ne]
      intro e
      exact hj (by rw [e]; rfl)
def adn (p q : Nat) : Nat := (BitVec.ofNat 32 p &&& ~~~BitVec.ofNat 32 q).toNat
theorem adn_bit {p q : Nat} (hp : p < 4294967296) (i : Nat) : (adn p q).testBit i = (p.testBit i && !q.testBit i) := by
  unfold adn
  rw [BitVec.testBit_toNat, BitVec.getLsbD_and, BitVec.getLsbD_not, BitVec.getLsbD_ofNat, BitVec.getLsbD_ofNat]
  by_cases hi : i < 32
  · simp [hi]
  · have : p.testBit i = false := Nat.testBit_lt_two_pow (Nat.lt_of_lt_of_le hp (Nat.pow_le_pow_right (n := 2) (i := 32) (by decide) (by omega)))
    simp [hi, this]
theorem adn_lt {p q n : Nat} (hp : p < 4294967296) (h : p < 2 ^ n) : adn p q < 2 ^ n := by
  refine Nat.lt_pow_two_of_testBit _ fun i hi => ?_
  rw [adn_bit hp, Nat.testBit_lt_two_pow (Nat.lt_of_lt_of_le h (Nat.pow_le_pow_right (by decide) hi))]
  rfl
theorem n_adn {P : Program} {t : TypeId} {l : Bool} (p q : Nat) : binV P .andNot t l (.int .u32 (p : Int)) (.int .u32 (q : Int)) = some (.int .u32 (adn p q : Nat)) := by
  rw [b_andNot]
  have h1 : (BitVec.ofInt IntKind.u32.bits (p : Int) &&& ~~~BitVec.ofInt IntKind.u32.bits (q : Int)).toNat = adn p q := by
    show (BitVec.ofInt 32 (p : Int) &&& ~~~BitVec.ofInt 32 (q : Int)).toNat = adn p q
    rw [ofInt_nat, ofInt_nat]; rfl
  rw [h1, wrapN32 (BitVec.isLt _)]
theorem res_cell4 {P : Program} {fn : Func} {e : Env} {H : AH} {a b c d : Tmp} {t u : TypeId} {v1 v2 u1 u2 : AV} (hr : fn.results = #[.cell a t, .cell b u, .tmp c, .tmp d]) (hv : loadV P t H (eget e a) = some v1) (hw : loadV P u H (eget e b) = some v2) (h2 : eget e c = u1) (h3 : eget e d = u2) :
    aResults P fn e H = some (.tuple [v1, v2, u1, u2]) := by
  have g1 : aRes1 P e H (.cell a t) = some v1 := hv
  have g0 : aRes1 P e H (.cell b u) = some v2 := hw
  have g2 : ∀ x, aRes1 P e H (.tmp x) = some (eget e x) := fun _ => rfl
  simp [aResults, hr, aResList, g0, g1, g2, h2, h3]
theorem bd24s (m n : Int) (a : Option Nat) (b c d e : Nat) (f : Bool) (a' : Option Nat) (b' c' d' e' : Nat) (f' : Bool) : aBuilt Try.prog 24 [(0, .int .i64 m), (1, .int .i64 n), (2, .slice a b c d e f), (3, .slice a' b' c' d' e' f')] = some [.int .i64 m, .int .i64 n, .slice a b c d e f, .slice a' b' c' d' e' f'] := by kernel_rfl
theorem st24 {H : AH} {p s : Nat} {m n : Int} {c : List AV} {u w : AV} (hr : H[p]? = some (.row c 0 s false)) (hc : c.length = 4) (hk : ∀ v ∈ c, v ≠ .undef) (hu : u.one = true) (hw : w.one = true) : storeV Try.prog 24 H (.ptr p 0 0) (.agg [.int .i64 m, .int .i64 n, u, w]) = some (none, H.set p (.row [.int .i64 m, .int .i64 n, u, w] 0 0 false)) :=
  store_agg ag24 hr (by decide) hc hk rfl (by
    intro v hv
    simp only [List.mem_cons, List.not_mem_nil, or_false] at hv
    rcases hv with rfl | rfl | rfl | rfl
    · rfl
    · rfl
    · exact hu
    · exact hw)
theorem st57 {H : AH} {p s : Nat} {m n : Int} {a b : Int} (hr : H[p]? = some (.row [.int .i64 a, .int .i64 b] 0 s false)) : storeV Try.prog 57 H (.ptr p 0 0) (.agg [.int .i64 m, .int .i64 n]) = some (none, H.set p (.row [.int .i64 m, .int .i64 n] 0 0 false)) :=
  store_agg ag57 hr (by decide) rfl (by simp) rfl (by simp [AV.one])
def zst0 : Unit := ()
theorem pt24 {H G : AH} {p : Nat} {m n : Int} {u w : AV} (hr : H[p]? = some (.row [.int .i64 0, .int .i64 0, .slice none 0 0 0 1 false, .slice none 0 0 0 1 false] 0 0 false)) (hu : u.one = true) (hw : w.one = true) (hG : H.set p (.row [.int .i64 m, .int .i64 n, u, w] 0 0 false) = G) : storeV Try.prog 24 H (.ptr p 0 0) (.agg [.int .i64 m, .int .i64 n, u, w]) = some (none, G) := by
  rw [st24 hr rfl (by simp) hu hw, hG]
def zst : List AV := [.int .i64 0, .int .i64 0, .slice none 0 0 0 1 false, .slice none 0 0 0 1 false]
set_option maxHeartbeats 2000000 in
theorem made_ac (a b x y most : Nat) (fz : Bool) (ha : a < 256) (hb : b < 256) (hx : x < 4294967296) (hy : y < 4294967296) (hm : most = 3 ∨ most = 5) (H : AH) (Q : AV → AH → Prop)
    (h : ∀ r c n s z v1 v2 H', r ≤ most → c ≤ most → Sd r c → r * c = n → s < 2 ^ n → z < 2 ^ n → (∀ b, tb z b = true → tb s b = false) → (fz = false → z = 0) → OwnF H.length H' v1 ((num (tb s)).reverse.map (.int .i64)) → OwnF H.length H' v2 ((num (tb z)).map (.int .i64)) → Ext H H' → Q (.tuple [.agg [.int .i64 r, .int .i64 c, v1, v2], .agg [.int .i64 r, .int .i64 c], .int .u32 s, .int .u32 z]) H') :
    AC Try.prog 40 [.agg [.int .u8 a, .int .u8 b, .int .u32 x, .int .u32 y], .int .i64 most, .bool fz] H Q := by
  refine L_body 62 Try.func40 rfl rfl ?_
  obtain ⟨I, hI, hz⟩ := zeroT_some zt24
  obtain ⟨J, hJ, hj⟩ := zeroT_some zt57
  have hz : I.zero = zst := hz
  refine L_reg [1, 2, 3, 6, 7] (fun K hK => ?_)
  simp [AV.isU, acells, hI, hz, hJ, hj]
  apply hK; clear hK K
  have d3 : (H ++ [AObj.row [.int .u8 a, .int .u8 b, .int .u32 x, .int .u32 y] 0 0 false, AObj.row zst 0 0 false, AObj.row [.int .i64 0, .int .i64 0] 0 0 false])[H.length]? = some (.row [.int .u8 a, .int .u8 b, .int .u32 x, .int .u32 y] 0 0 false) := by simp
  have d6 : (H ++ [AObj.row [.int .u8 a, .int .u8 b, .int .u32 x, .int .u32 y] 0 0 false, AObj.row zst 0 0 false, AObj.row [.int .i64 0, .int .i64 0] 0 0 false])[H.length + 1]? = some (.row zst 0 0 false) := by simp
  have d7 : (H ++ [AObj.row [.int .u8 a, .int .u8 b, .int .u32 x, .int .u32 y] 0 0 false, AObj.row zst 0 0 false, AObj.row [.int .i64 0, .int .i64 0] 0 0 false])[H.length + 2]? = some (.row [.int .i64 0, .int .i64 0] 0 0 false) := by simp
  have hE : Ext H (H ++ [AObj.row [.int .u8 a, .int .u8 b, .int .u32 x, .int .u32 y] 0 0 false, AObj.row zst 0 0 false, AObj.row [.int .i64 0, .int .i64 0] 0 0 false]) := .push _ _
  have hL : (H ++ [AObj.row [.int .u8 a, .int .u8 b, .int .u32 x, .int .u32 y] 0 0 false, AObj.row zst 0 0 false, AObj.row [.int .i64 0, .int .i64 0] 0 0 false]).length = H.length + 3 := by simp
  generalize H ++ [AObj.row [.int .u8 a, .int .u8 b, .int .u32 x, .int .u32 y] 0 0 false, AObj.row zst 0 0 false, AObj.row [.int .i64 0, .int .i64 0] 0 0 false] = H1 at d3 d6 d7 hE hL ⊢
  obtain ⟨r, hr⟩ : ∃ r, 1 + a % most = r := ⟨_, rfl⟩
  obtain ⟨c, hc⟩ : ∃ c, 1 + b % most = c := ⟨_, rfl⟩
  have hm1 : 1 ≤ most := by omega
  have hrm : r ≤ most := by have := Nat.mod_lt a hm1; omega
  have hcm : c ≤ most := by have := Nat.mod_lt b hm1; omega
  have hs : Sd r c := ⟨by omega, by omega, by omega, by omega⟩
  obtain ⟨n, hn⟩ : ∃ n, r * c = n := ⟨_, rfl⟩
  have h25 := hs.le
  rw [hn] at h25
  have e0 : ld H1 H.length 0 0 = some (.int .u8 a) := by rw [ld_row d3]; rfl
  have e1 : ld H1 H.length 1 0 = some (.int .u8 b) := by rw [ld_row d3]; rfl
  have m0 : (most : Int) ≠ 0 := by omega
  have m0' : most ≠ 0 := by omega
  have ra := rem_nat a most
  have rb := rem_nat b most
  have wa : IntKind.i64.wrap (a : Int) = a := wrap_i64 (by omega)
  have wb : IntKind.i64.wrap (b : Int) = b := wrap_i64 (by omega)
  obtain ⟨a', ha'⟩ : ∃ a', a % most = a' := ⟨_, rfl⟩
  obtain ⟨b', hb'⟩ : ∃ b', b % most = b' := ⟨_, rfl⟩
  rw [ha'] at ra hr
  rw [hb'] at rb hc
  have wr : IntKind.i64.wrap (1 + (a' : Int)) = r := by rw [wrap_i64 (by omega)]; omega
  have wc : IntKind.i64.wrap (1 + (b' : Int)) = c := by rw [wrap_i64 (by omega)]; omega
  have hst1 : storeV Try.prog 57 (H1 ++ [AObj.row [.int .i64 0, .int .i64 0] 0 0 false]) (.ptr H1.length 0 0) (.agg [.int .i64 r, .int .i64 c]) = some (none, H1 ++ [AObj.row [.int .i64 r, .int .i64 c] 0 0 false]) := by
    rw [st57 (a := 0) (b := 0) (s := 0) (by simp)]; simp
  have ex1 : ∀ l : AH, Ext H1 (H1 ++ l) := fun l => .push _ _
  refine L_regU mixed [false, true, false, false, false, false, false, true, false, false, false, false, false, false] [2, 3, 6, 7, 10] (by kernel_rfl) (fun K hK => ?_)
  simp [e0, e1, m0', ra, rb, wa, wb, wr, wc, hJ, hj, hst1, ex1]
  apply hK; clear hK K
  have d10 : (H1 ++ [AObj.row [.int .i64 r, .int .i64 c] 0 0 false])[H.length + 3]? = some (.row [.int .i64 r, .int .i64 c] 0 0 false) := by rw [← hL]; simp
  have hL2 : (H1 ++ [AObj.row [.int .i64 r, .int .i64 c] 0 0 false]).length = H.length + 4 := by simp [hL]
  rw [hL]
  replace d3 := (ex1 [AObj.row [.int .i64 r, .int .i64 c] 0 0 false]).row d3
  replace d6 := (ex1 [AObj.row [.int .i64 r, .int .i64 c] 0 0 false]).row d6
  replace d7 := (ex1 [AObj.row [.int .i64 r, .int .i64 c] 0 0 false]).row d7
  replace hE := hE.trans (ex1 [AObj.row [.int .i64 r, .int .i64 c] 0 0 false])
  clear e0 e1 hst1 ex1 hL
  generalize H1 ++ [AObj.row [.int .i64 r, .int .i64 c] 0 0 false] = H2 at d3 d6 d7 d10 hE hL2 ⊢
  have e0 := ld_f0 d10
  have e1 := ld_f1 d10
  have e2 : ld H2 H.length 2 0 = some (.int .u32 x) := by rw [ld_row d3]; rfl
  have e3 : ld H2 H.length 3 0 = some (.int .u32 y) := by rw [ld_row d3]; rfl
  have em : (r : Int) * c = n := by rw [← hn]; simp
  have wn : IntKind.i64.wrap (n : Int) = n := wrap_i64 (by omega)
  have hshl : ∀ tt ll, binV Try.prog .shl tt ll (.int .u32 1) (.int .i64 (n : Int)) = some (.int .u32 ((1 <<< n : Nat) : Int)) := fun tt ll => n_shl32 n (by omega)
  have hp : 1 <<< n = 2 ^ n := by rw [Nat.shiftLeft_eq, Nat.one_mul]
  have hp1 : 1 ≤ 2 ^ n := Nat.one_le_two_pow
  have hp2 : 2 ^ n ≤ 33554432 := Nat.le_trans (Nat.pow_le_pow_right (by decide) h25) (by decide)
  rw [hp] at hshl
  obtain ⟨A, hA⟩ : ∃ A, 2 ^ n - 1 = A := ⟨_, rfl⟩
  obtain ⟨B, hB⟩ : ∃ B, 2 ^ n = B := ⟨_, rfl⟩
  rw [hB] at hshl hp1 hp2 hA
  have wA : IntKind.u32.wrap ((B : Int) - 1) = A := by rw [wrap_u32 (by omega)]; omega
  refine L_reg [2, 3, 6, 7, 10, 11] (fun K hK => ?_)
  simp [e0, e1, em, wn, hshl, wA]
  apply hK; clear hK K
  have hA32 : A < 4294967296 := by omega
  have handx : ∀ tt ll, binV Try.prog .and tt ll (.int .u32 (x : Int)) (.int .u32 (A : Int)) = some (.int .u32 ((x &&& A : Nat) : Int)) := fun tt ll => n_and32 x A hx hA32
  have handy : ∀ tt ll, binV Try.prog .and tt ll (.int .u32 (y : Int)) (.int .u32 (A : Int)) = some (.int .u32 ((y &&& A : Nat) : Int)) := fun tt ll => n_and32 y A hy hA32
  have hxl : x &&& A < 2 ^ n := by rw [← hA, ← hB]; exact Nat.lt_of_le_of_lt Nat.and_le_right (by omega)
  have hyl : y &&& A < 2 ^ n := by rw [← hA, ← hB]; exact Nat.lt_of_le_of_lt Nat.and_le_right (by omega)
  obtain ⟨s, hsx⟩ : ∃ s, x &&& A = s := ⟨_, rfl⟩
  obtain ⟨p, hpx⟩ : ∃ p, y &&& A = p := ⟨_, rfl⟩
  rw [hsx] at hxl handx
  rw [hpx] at hyl handy
  refine L_reg [2, 3, 6, 7, 10, 11, 12] (fun K hK => ?_)
  simp [e2, handx]
  apply hK; clear hK K
  refine L_reg [2, 3, 6, 7, 10, 11, 12, 13] (fun K hK => ?_)
  simp
  apply hK; clear hK K
  refine L_reg [3, 6, 7, 10, 11, 12, 13, 39] (fun K hK => ?_)
  simp
  apply hK; clear hK K
  have hp32 := p32 h25 hyl
  refine L_condK [6, 7, 10, 12, 13] (fun e' H' => ∃ z : Nat, z < 2 ^ n ∧ (∀ b, tb z b = true → tb s b = false) ∧ (fz = false → z = 0) ∧ e' = [(6, .ptr (H.length + 1) 0 0), (7, .ptr (H.length + 2) 0 0), (10, .ptr (H.length + 3) 0 0), (12, .int .u32 s), (13, .int .u32 z)] ∧ H2 = H') (t := fz) (by simp) (fun ht => ?_) (fun ht => ?_) ?_
  · have hadn : ∀ tt ll, binV Try.prog .andNot tt ll (.int .u32 (p : Int)) (.int .u32 (s : Int)) = some (.int .u32 (adn p s : Nat)) := fun tt ll => n_adn p s
    refine L_reg [6, 7, 10, 12, 13] (fun K hK => ?_)
    simp [e3, handy, hadn]
    apply hK; clear hK K
    refine ⟨adn p s, adn_lt hp32 hyl, fun b hb => ?_, fun hf => (by rw [ht] at hf; cases hf), by simp, rfl⟩
    have : (adn p s).testBit b = true := hb
    rw [adn_bit hp32] at this
    simp only [Bool.and_eq_true, Bool.not_eq_true'] at this
    exact this.2
  · exact ⟨0, Nat.two_pow_pos n, fun b hb => by simp [tb] at hb, fun _ => rfl, rfl, rfl⟩
  rintro _ _ ⟨z, hzl, hdis, hz0, rfl, rfl⟩
  have hs32 := p32 h25 hxl
  have hz32 := p32 h25 hzl
  have hfin2 : ∀ v1 v2 H', OwnF H.length H' v1 ((num (tb s)).reverse.map (.int .i64)) → OwnF H.length H' v2 ((num (tb z)).map (.int .i64)) → Ext H H' → Q (.tuple [.agg [.int .i64 r, .int .i64 c, v1, v2], .agg [.int .i64 r, .int .i64 c], .int .u32 s, .int .u32 z]) H' := fun v1 v2 H' g1 g2 g3 => h r c n s z v1 v2 H' hrm hcm hs hn hxl hzl hdis hz0 g1 g2 g3
  clear h hdis hz0 handx handy hshl e2 e3 hyl hpx hsx
  have ex : ∀ l : AH, Ext H2 (H2 ++ l) := fun l => .push _ _
  have ex1 : ∀ a (l : AH), Ext (H2 ++ [a]) (H2 ++ a :: l) := fun a l => by have := Ext.push (H2 ++ [a]) l; simpa using this
  have ex2 : ∀ a b (l : AH), Ext (H2 ++ [a, b]) (H2 ++ a :: b :: l) := fun a b l => by have := Ext.push (H2 ++ [a, b]) l; simpa using this
  have hbs : ∀ (H : AH) (Q : AV → AH → Prop), Q (lsV H (num (tb s))) (lsH H (num (tb s))) → AC Try.prog 43 [.int .u32 s] H Q := fun H Q hQ => AC.tidyL (fun Q h => bits_ac s hs32 H Q h) Q hQ
  have hbz : ∀ (H : AH) (Q : AV → AH → Prop), Q (lsV H (num (tb z))) (lsH H (num (tb z))) → AC Try.prog 43 [.int .u32 z] H Q := fun H Q hQ => AC.tidyL (fun Q h => bits_ac z hz32 H Q h) Q hQ
  have hnl := num_len (tb s)
  obtain ⟨L, hLs⟩ : ∃ L, num (tb s) = L := ⟨_, rfl⟩
  obtain ⟨M, hMz⟩ : ∃ M, num (tb z) = M := ⟨_, rfl⟩
  rw [hLs] at hbs hfin2 hnl
  rw [hMz] at hbz hfin2
  refine L_regR mixed (fun K hK => ?_)
  have hfin : ∀ (p : Nat) (v1 v2 : AV) (H9 : AH), H2.length ≤ p → v1.one = true → v2.one = true → OwnF H2.length H9 v1 (L.map (.int .i64)) → OwnF H2.length H9 v2 (M.map (.int .i64)) → (∀ a, rowOf v1 = some a → a ≠ p ∧ rowOf v2 ≠ some a) → H9[p]? = some (.row [.int .i64 r, .int .i64 c, v1, v2] 0 0 false) → Ext H2 H9 →
      K .normal [(6, .ptr (H.length + 1) 0 0), (7, .ptr (H.length + 2) 0 0), (10, .ptr (H.length + 3) 0 0), (12, .int .u32 s), (13, .int .u32 z), (14, .ptr p 0 0)] H9 := by
    intro p v1 v2 H9 hp hv1 hv2 hO1 hO2 hdis hrow hE9
    apply hK; clear hK K
    replace d6 := hE9.row d6
    replace d7 := hE9.row d7
    replace d10 := hE9.row d10
    replace hE := hE.trans hE9
    have k1 : v1 ≠ .undef := one_known hv1
    have k2 : v2 ≠ .undef := one_known hv2
    have a2 : ld H9 p 2 0 = some v1 := by rw [ld_row hrow]; show known (some v1) = some v1; cases v1 <;> first | rfl | exact absurd rfl k1
    refine L_reg [6, 7, 10, 12, 13, 14] (fun K hK => ?_)
    simp [okFn_low, a2]
    refine reverse_own H2.length v1 L H9 _ hO1 (by omega) (fun H10 hO3 hk hlen => ?_)
    simp
    apply hK; clear hK K
    have hg : ∀ j, j < H2.length → H10[j]? = H9[j]? := fun j hj => hk j fun e => by
      have := ownF_row hO1 e
      omega
    have c6 : H10[H.length + 1]? = some (.row zst 0 0 false) := by rw [hg _ (by omega)]; exact d6
    have c7 : H10[H.length + 2]? = some (.row [.int .i64 0, .int .i64 0] 0 0 false) := by rw [hg _ (by omega)]; exact d7
    have c10 : H10[H.length + 3]? = some (.row [.int .i64 r, .int .i64 c] 0 0 false) := by rw [hg _ (by omega)]; exact d10
    have cp : H10[p]? = some (.row [.int .i64 r, .int .i64 c, v1, v2] 0 0 false) := by rw [hk p fun e => (hdis p e).1 rfl]; exact hrow
    have cO2 : OwnF H2.length H10 v2 (M.map (.int .i64)) := ownF_at hO2 fun j hj => hk j fun e => (hdis j e).2 hj
    have cE : Ext H H10 := ⟨by rw [hlen]; exact hE.1, fun j hj => by rw [hg j (by omega)]; exact hE.2 j hj⟩
    clear d6 d7 d10 hrow hO1 hO2 hE a2 hk hg
    have a14 := ldn4 cp k1 k2
    have a10 := ldn_f c10
    have hst6 := st24 (m := r) (n := c) c6 rfl (by simp [zst]) hv1 hv2
    have c7' : (H10.set (H.length + 1) (.row [.int .i64 r, .int .i64 c, v1, v2] 0 0 false))[H.length + 2]? = some (.row [.int .i64 0, .int .i64 0] 0 0 false) := by rw [List.getElem?_set_ne (by omega)]; exact c7
    have hst7 := st57 (m := r) (n := c) c7'
    have f6 : ((H10.set (H.length + 1) (.row [.int .i64 r, .int .i64 c, v1, v2] 0 0 false)).set (H.length + 2) (.row [.int .i64 r, .int .i64 c] 0 0 false))[H.length + 1]? = some (.row [.int .i64 r, .int .i64 c, v1, v2] 0 0 false) := by rw [List.getElem?_set_ne (by omega)]; exact get_set c6
    have f7 := get_set (o' := .row [.int .i64 r, .int .i64 c] 0 0 false) c7'
    have hlate : ∀ j, H2.length ≤ j → ((H10.set (H.length + 1) (.row [.int .i64 r, .int .i64 c, v1, v2] 0 0 false)).set (H.length + 2) (.row [.int .i64 r, .int .i64 c] 0 0 false))[j]? = H10[j]? := fun j hj => by rw [List.getElem?_set_ne (by omega), List.getElem?_set_ne (by omega)]
    have fE : Ext H ((H10.set (H.length + 1) (.row [.int .i64 r, .int .i64 c, v1, v2] 0 0 false)).set (H.length + 2) (.row [.int .i64 r, .int .i64 c] 0 0 false)) := (cE.set _ (by omega)).set _ (by omega)
    refine L_regS mixed [H.length + 1, H.length + 2] [false, true, false, false, false] [6, 7, 8, 9] (by kernel_rfl) (fun K hK => ?_)
    simp [a14, a10, hst6, hst7]
    refine ⟨(KeepS.refl _ _).set (by simp) _, ?_⟩
    apply hK; clear hK K
    have ld24' := ldn4 f6 k1 k2
    refine L_ret ⟨.inr rfl, _, res_cell4 rfl (by simp [ld24']) (by simp [ldn_f f7]) rfl rfl, hfin2 v1 v2 _ ?_ ?_ fE⟩
    · exact (ownF_at hO3 fun j hj => hlate j (ownF_row hO3 hj)).mono (by omega)
    · exact (ownF_at cO2 fun j hj => hlate j (ownF_row cO2 hj)).mono (by omega)
  clear hLs hMz hnl
  have hzz : I.zero = [.int .i64 0, .int .i64 0, .slice none 0 0 0 1 false, .slice none 0 0 0 1 false] := hz
  rcases L with _ | ⟨l0, L0⟩ <;> rcases M with _ | ⟨m0, M0⟩
  · -- [] []
    refine AWR_pair (x := 5) (y := 9) (ord := [0, 1, 2, 3, 4, 6, 9, 5, 7, 8, 10]) (by kernel_rfl) ?_ ?_
    · refine AWR_pair (x := 7) (y := 9) (ord := [0, 1, 2, 3, 4, 5, 6, 9, 7, 8, 10]) (by kernel_rfl) ?_ ?_
      · refine AWR_U [6, 7, 10, 12, 13, 14] [false, true, false, true, false, false, false, false, false, false] rfl (by kernel_rfl) ?_
        have hpt : storeV Try.prog 24 (H2 ++ [.row zst 0 0 false]) (.ptr H2.length 0 0) (.agg [.int .i64 r, .int .i64 c, .slice none 0 0 0 1 false, .slice none 0 0 0 1 false]) = some (none, H2 ++ [.row [.int .i64 r, .int .i64 c, .slice none 0 0 0 1 false, .slice none 0 0 0 1 false] 0 0 false]) := pt24 (by simp [zst]) rfl rfl (by simp)
        simp [zst] at hpt
        simp [addE, okFn_low, e0, e1]
        first | refine exX_mk (fun Q hQ => hbs _ Q hQ) (.refl _) ?_ | refine exX_mk (fun Q hQ => hbs _ Q hQ) (ex _) ?_ | refine exC_mk (fun Q hQ => hbs _ Q hQ) ?_
        simp [okFn_low, lsV, lsH]
        first | refine exX_mk (fun Q hQ => hbz _ Q hQ) (.refl _) ?_ | refine exX_mk (fun Q hQ => hbz _ Q hQ) (ex _) ?_ | refine exC_mk (fun Q hQ => hbz _ Q hQ) ?_
        simp [bd24s, hI, hz, ex, lsV, lsH, zst, hpt]
        refine hfin H2.length (.slice none 0 0 0 1 false) (.slice none 0 0 0 1 false) (H2 ++ [.row [.int .i64 r, .int .i64 c, .slice none 0 0 0 1 false, .slice none 0 0 0 1 false] 0 0 false]) (by omega) rfl rfl ?_ ?_ ?_ ?_ (ex _)
        · exact OwnF.nil _ _
        · exact OwnF.nil _ _
        · intro a ha; first | (cases ha; done) | (cases ha; exact ⟨by omega, fun e => by first | cases e | (have := Option.some.inj e; omega)⟩)
        · simp
      · refine AWR_U [6, 7, 10, 12, 13, 14] [false, true, false, true, false, false, false, false, false] rfl (by kernel_rfl) ?_
        have hpt : storeV Try.prog 24 (H2 ++ [.row zst 0 0 false]) (.ptr H2.length 0 0) (.agg [.int .i64 r, .int .i64 c, .slice none 0 0 0 1 false, .slice none 0 0 0 1 false]) = some (none, H2 ++ [.row [.int .i64 r, .int .i64 c, .slice none 0 0 0 1 false, .slice none 0 0 0 1 false] 0 0 false]) := pt24 (by simp [zst]) rfl rfl (by simp)
        simp [zst] at hpt
        simp [addE, permL, okFn_low, e0, e1]
        first | refine exX_mk (fun Q hQ => hbs _ Q hQ) (.refl _) ?_ | refine exX_mk (fun Q hQ => hbs _ Q hQ) (ex _) ?_ | refine exC_mk (fun Q hQ => hbs _ Q hQ) ?_
        simp [okFn_low, hI, hz, ex, lsV, lsH]
        first | refine exX_mk (fun Q hQ => hbz _ Q hQ) (.refl _) ?_ | refine exX_mk (fun Q hQ => hbz _ Q hQ) (ex _) ?_ | refine exC_mk (fun Q hQ => hbz _ Q hQ) ?_
        simp [bd24s, lsV, lsH, zst, hpt]
        refine hfin H2.length (.slice none 0 0 0 1 false) (.slice none 0 0 0 1 false) (H2 ++ [.row [.int .i64 r, .int .i64 c, .slice none 0 0 0 1 false, .slice none 0 0 0 1 false] 0 0 false]) (by omega) rfl rfl ?_ ?_ ?_ ?_ (ex _)
        · exact OwnF.nil _ _
        · exact OwnF.nil _ _
        · intro a ha; first | (cases ha; done) | (cases ha; exact ⟨by omega, fun e => by first | cases e | (have := Option.some.inj e; omega)⟩)
        · simp
    · refine AWR_U [6, 7, 10, 12, 13, 14] [false, true, false, true, false, false, false, false, false] rfl (by kernel_rfl) ?_
      have hpt : storeV Try.prog 24 (H2 ++ [.row zst 0 0 false]) (.ptr H2.length 0 0) (.agg [.int .i64 r, .int .i64 c, .slice none 0 0 0 1 false, .slice none 0 0 0 1 false]) = some (none, H2 ++ [.row [.int .i64 r, .int .i64 c, .slice none 0 0 0 1 false, .slice none 0 0 0 1 false] 0 0 false]) := pt24 (by simp [zst]) rfl rfl (by simp)
      simp [zst] at hpt
      simp [addE, permL, okFn_low, e0, e1, hI, hz, ex]
      first | refine exX_mk (fun Q hQ => hbs _ Q hQ) (.refl _) ?_ | refine exX_mk (fun Q hQ => hbs _ Q hQ) (ex _) ?_ | refine exC_mk (fun Q hQ => hbs _ Q hQ) ?_
      simp [okFn_low, lsV, lsH]
      first | refine exX_mk (fun Q hQ => hbz _ Q hQ) (.refl _) ?_ | refine exX_mk (fun Q hQ => hbz _ Q hQ) (ex _) ?_ | refine exC_mk (fun Q hQ => hbz _ Q hQ) ?_
      simp [bd24s, lsV, lsH, zst, hpt]
      refine hfin H2.length (.slice none 0 0 0 1 false) (.slice none 0 0 0 1 false) (H2 ++ [.row [.int .i64 r, .int .i64 c, .slice none 0 0 0 1 false, .slice none 0 0 0 1 false] 0 0 false]) (by omega) rfl rfl ?_ ?_ ?_ ?_ (ex _)
      · exact OwnF.nil _ _
      · exact OwnF.nil _ _
      · intro a ha; first | (cases ha; done) | (cases ha; exact ⟨by omega, fun e => by first | cases e | (have := Option.some.inj e; omega)⟩)
      · simp
  · -- [] (m0 :: M0)
    refine AWR_pair (x := 5) (y := 9) (ord := [0, 1, 2, 3, 4, 6, 9, 5, 7, 8, 10]) (by kernel_rfl) ?_ ?_
    · refine AWR_pair (x := 7) (y := 9) (ord := [0, 1, 2, 3, 4, 5, 6, 9, 7, 8, 10]) (by kernel_rfl) ?_ ?_
      · refine AWR_U [6, 7, 10, 12, 13, 14] [false, true, false, true, false, false, false, false, false, false] rfl (by kernel_rfl) ?_
        have hpt : storeV Try.prog 24 (H2 ++ [.row ((m0 :: M0).map (.int .i64)) 0 (m0 :: M0).length false, .row zst 0 0 false]) (.ptr (H2.length + 1) 0 0) (.agg [.int .i64 r, .int .i64 c, .slice none 0 0 0 1 false, .slice (some H2.length) 0 (m0 :: M0).length 0 1 false]) = some (none, H2 ++ [.row ((m0 :: M0).map (.int .i64)) 0 (m0 :: M0).length false, .row [.int .i64 r, .int .i64 c, .slice none 0 0 0 1 false, .slice (some H2.length) 0 (m0 :: M0).length 0 1 false] 0 0 false]) := pt24 (by simp [zst]) rfl rfl (by simp)
        simp [zst] at hpt
        simp [addE, okFn_low, e0, e1]
        first | refine exX_mk (fun Q hQ => hbs _ Q hQ) (.refl _) ?_ | refine exX_mk (fun Q hQ => hbs _ Q hQ) (ex _) ?_ | refine exC_mk (fun Q hQ => hbs _ Q hQ) ?_
        simp [okFn_low, lsV, lsH]
        first | refine exX_mk (fun Q hQ => hbz _ Q hQ) (.refl _) ?_ | refine exX_mk (fun Q hQ => hbz _ Q hQ) (ex _) ?_ | refine exC_mk (fun Q hQ => hbz _ Q hQ) ?_
        simp [bd24s, hI, hz, ex, lsV, lsH, zst, hpt]
        refine hfin (H2.length + 1) (.slice none 0 0 0 1 false) (.slice (some H2.length) 0 (m0 :: M0).length 0 1 false) (H2 ++ [.row ((m0 :: M0).map (.int .i64)) 0 (m0 :: M0).length false, .row [.int .i64 r, .int .i64 c, .slice none 0 0 0 1 false, .slice (some H2.length) 0 (m0 :: M0).length 0 1 false] 0 0 false]) (by omega) rfl rfl ?_ ?_ ?_ ?_ (ex _)
        · exact OwnF.nil _ _
        · exact .inr ⟨H2.length, 0, ((m0 :: M0)).length, by omega, by simp, by simp⟩
        · intro a ha; first | (cases ha; done) | (cases ha; exact ⟨by omega, fun e => by first | cases e | (have := Option.some.inj e; omega)⟩)
        · simp
      · refine AWR_U [6, 7, 10, 12, 13, 14] [false, true, false, true, false, false, false, false, false] rfl (by kernel_rfl) ?_
        have hpt : storeV Try.prog 24 (H2 ++ [.row zst 0 0 false, .row ((m0 :: M0).map (.int .i64)) 0 (m0 :: M0).length false]) (.ptr H2.length 0 0) (.agg [.int .i64 r, .int .i64 c, .slice none 0 0 0 1 false, .slice (some (H2.length + 1)) 0 (m0 :: M0).length 0 1 false]) = some (none, H2 ++ [.row [.int .i64 r, .int .i64 c, .slice none 0 0 0 1 false, .slice (some (H2.length + 1)) 0 (m0 :: M0).length 0 1 false] 0 0 false, .row ((m0 :: M0).map (.int .i64)) 0 (m0 :: M0).length false]) := pt24 (by simp [zst]) rfl rfl (by simp)
        simp [zst] at hpt
        simp [addE, permL, okFn_low, e0, e1]
        first | refine exX_mk (fun Q hQ => hbs _ Q hQ) (.refl _) ?_ | refine exX_mk (fun Q hQ => hbs _ Q hQ) (ex _) ?_ | refine exC_mk (fun Q hQ => hbs _ Q hQ) ?_
        simp [okFn_low, hI, hz, ex, lsV, lsH]
        first | refine exX_mk (fun Q hQ => hbz _ Q hQ) (.refl _) ?_ | refine exX_mk (fun Q hQ => hbz _ Q hQ) (ex _) ?_ | refine exC_mk (fun Q hQ => hbz _ Q hQ) ?_
        simp [bd24s, ex1, lsV, lsH, zst, hpt]
        refine hfin H2.length (.slice none 0 0 0 1 false) (.slice (some (H2.length + 1)) 0 (m0 :: M0).length 0 1 false) (H2 ++ [.row [.int .i64 r, .int .i64 c, .slice none 0 0 0 1 false, .slice (some (H2.length + 1)) 0 (m0 :: M0).length 0 1 false] 0 0 false, .row ((m0 :: M0).map (.int .i64)) 0 (m0 :: M0).length false]) (by omega) rfl rfl ?_ ?_ ?_ ?_ (ex _)
        · exact OwnF.nil _ _
        · exact .inr ⟨(H2.length + 1), 0, ((m0 :: M0)).length, by omega, by simp, by simp⟩
        · intro a ha; first | (cases ha; done) | (cases ha; exact ⟨by omega, fun e => by first | cases e | (have := Option.some.inj e; omega)⟩)
        · simp
    · refine AWR_U [6, 7, 10, 12, 13, 14] [false, true, false, true, false, false, false, false, false] rfl (by kernel_rfl) ?_
      have hpt : storeV Try.prog 24 (H2 ++ [.row zst 0 0 false, .row ((m0 :: M0).map (.int .i64)) 0 (m0 :: M0).length false]) (.ptr H2.length 0 0) (.agg [.int .i64 r, .int .i64 c, .slice none 0 0 0 1 false, .slice (some (H2.length + 1)) 0 (m0 :: M0).length 0 1 false]) = some (none, H2 ++ [.row [.int .i64 r, .int .i64 c, .slice none 0 0 0 1 false, .slice (some (H2.length + 1)) 0 (m0 :: M0).length 0 1 false] 0 0 false, .row ((m0 :: M0).map (.int .i64)) 0 (m0 :: M0).length false]) := pt24 (by simp [zst]) rfl rfl (by simp)
      simp [zst] at hpt
      simp [addE, permL, okFn_low, e0, e1, hI, hz, ex]
      first | refine exX_mk (fun Q hQ => hbs _ Q hQ) (.refl _) ?_ | refine exX_mk (fun Q hQ => hbs _ Q hQ) (ex _) ?_ | refine exC_mk (fun Q hQ => hbs _ Q hQ) ?_
      simp [okFn_low, lsV, lsH]
      first | refine exX_mk (fun Q hQ => hbz _ Q hQ) (.refl _) ?_ | refine exX_mk (fun Q hQ => hbz _ Q hQ) (ex _) ?_ | refine exC_mk (fun Q hQ => hbz _ Q hQ) ?_
      simp [bd24s, ex1, lsV, lsH, zst, hpt]
      refine hfin H2.length (.slice none 0 0 0 1 false) (.slice (some (H2.length + 1)) 0 (m0 :: M0).length 0 1 false) (H2 ++ [.row [.int .i64 r, .int .i64 c, .slice none 0 0 0 1 false, .slice (some (H2.length + 1)) 0 (m0 :: M0).length 0 1 false] 0 0 false, .row ((m0 :: M0).map (.int .i64)) 0 (m0 :: M0).length false]) (by omega) rfl rfl ?_ ?_ ?_ ?_ (ex _)
      · exact OwnF.nil _ _
      · exact .inr ⟨(H2.length + 1), 0, ((m0 :: M0)).length, by omega, by simp, by simp⟩
      · intro a ha; first | (cases ha; done) | (cases ha; exact ⟨by omega, fun e => by first | cases e | (have := Option.some.inj e; omega)⟩)
      · simp
  · -- (l0 :: L0) []
    refine AWR_pair (x := 5) (y := 9) (ord := [0, 1, 2, 3, 4, 6, 9, 5, 7, 8, 10]) (by kernel_rfl) ?_ ?_
    · refine AWR_pair (x := 7) (y := 9) (ord := [0, 1, 2, 3, 4, 5, 6, 9, 7, 8, 10]) (by kernel_rfl) ?_ ?_
      · refine AWR_U [6, 7, 10, 12, 13, 14] [false, true, false, true, false, false, false, false, false, false] rfl (by kernel_rfl) ?_
        have hpt : storeV Try.prog 24 (H2 ++ [.row ((l0 :: L0).map (.int .i64)) 0 (l0 :: L0).length false, .row zst 0 0 false]) (.ptr (H2.length + 1) 0 0) (.agg [.int .i64 r, .int .i64 c, .slice (some H2.length) 0 (l0 :: L0).length 0 1 false, .slice none 0 0 0 1 false]) = some (none, H2 ++ [.row ((l0 :: L0).map (.int .i64)) 0 (l0 :: L0).length false, .row [.int .i64 r, .int .i64 c, .slice (some H2.length) 0 (l0 :: L0).length 0 1 false, .slice none 0 0 0 1 false] 0 0 false]) := pt24 (by simp [zst]) rfl rfl (by simp)
        simp [zst] at hpt
        simp [addE, okFn_low, e0, e1]
        first | refine exX_mk (fun Q hQ => hbs _ Q hQ) (.refl _) ?_ | refine exX_mk (fun Q hQ => hbs _ Q hQ) (ex _) ?_ | refine exC_mk (fun Q hQ => hbs _ Q hQ) ?_
        simp [okFn_low, lsV, lsH]
        first | refine exX_mk (fun Q hQ => hbz _ Q hQ) (.refl _) ?_ | refine exX_mk (fun Q hQ => hbz _ Q hQ) (ex _) ?_ | refine exC_mk (fun Q hQ => hbz _ Q hQ) ?_
        simp [bd24s, hI, hz, ex, lsV, lsH, zst, hpt]
        refine hfin (H2.length + 1) (.slice (some H2.length) 0 (l0 :: L0).length 0 1 false) (.slice none 0 0 0 1 false) (H2 ++ [.row ((l0 :: L0).map (.int .i64)) 0 (l0 :: L0).length false, .row [.int .i64 r, .int .i64 c, .slice (some H2.length) 0 (l0 :: L0).length 0 1 false, .slice none 0 0 0 1 false] 0 0 false]) (by omega) rfl rfl ?_ ?_ ?_ ?_ (ex _)
        · exact .inr ⟨H2.length, 0, ((l0 :: L0)).length, by omega, by simp, by simp⟩
        · exact OwnF.nil _ _
        · intro a ha; first | (cases ha; done) | (cases ha; exact ⟨by omega, fun e => by first | cases e | (have := Option.some.inj e; omega)⟩)
        · simp
      · refine AWR_U [6, 7, 10, 12, 13, 14] [false, true, false, true, false, false, false, false, false] rfl (by kernel_rfl) ?_
        have hpt : storeV Try.prog 24 (H2 ++ [.row ((l0 :: L0).map (.int .i64)) 0 (l0 :: L0).length false, .row zst 0 0 false]) (.ptr (H2.length + 1) 0 0) (.agg [.int .i64 r, .int .i64 c, .slice (some H2.length) 0 (l0 :: L0).length 0 1 false, .slice none 0 0 0 1 false]) = some (none, H2 ++ [.row ((l0 :: L0).map (.int .i64)) 0 (l0 :: L0).length false, .row [.int .i64 r, .int .i64 c, .slice (some H2.length) 0 (l0 :: L0).length 0 1 false, .slice none 0 0 0 1 false] 0 0 false]) := pt24 (by simp [zst]) rfl rfl (by simp)
        simp [zst] at hpt
        simp [addE, permL, okFn_low, e0, e1]
        first | refine exX_mk (fun Q hQ => hbs _ Q hQ) (.refl _) ?_ | refine exX_mk (fun Q hQ => hbs _ Q hQ) (ex _) ?_ | refine exC_mk (fun Q hQ => hbs _ Q hQ) ?_
        simp [okFn_low, hI, hz, ex, lsV, lsH]
        first | refine exX_mk (fun Q hQ => hbz _ Q hQ) (.refl _) ?_ | refine exX_mk (fun Q hQ => hbz _ Q hQ) (ex _) ?_ | refine exC_mk (fun Q hQ => hbz _ Q hQ) ?_
        simp [bd24s, lsV, lsH, zst, hpt]
        refine hfin (H2.length + 1) (.slice (some H2.length) 0 (l0 :: L0).length 0 1 false) (.slice none 0 0 0 1 false) (H2 ++ [.row ((l0 :: L0).map (.int .i64)) 0 (l0 :: L0).length false, .row [.int .i64 r, .int .i64 c, .slice (some H2.length) 0 (l0 :: L0).length 0 1 false, .slice none 0 0 0 1 false] 0 0 false]) (by omega) rfl rfl ?_ ?_ ?_ ?_ (ex _)
        · exact .inr ⟨H2.length, 0, ((l0 :: L0)).length, by omega, by simp, by simp⟩
        · exact OwnF.nil _ _
        · intro a ha; first | (cases ha; done) | (cases ha; exact ⟨by omega, fun e => by first | cases e | (have := Option.some.inj e; omega)⟩)
        · simp
    · refine AWR_U [6, 7, 10, 12, 13, 14] [false, true, false, true, false, false, false, false, false] rfl (by kernel_rfl) ?_
      have hpt : storeV Try.prog 24 (H2 ++ [.row zst 0 0 false, .row ((l0 :: L0).map (.int .i64)) 0 (l0 :: L0).length false]) (.ptr H2.length 0 0) (.agg [.int .i64 r, .int .i64 c, .slice (some (H2.length + 1)) 0 (l0 :: L0).length 0 1 false, .slice none 0 0 0 1 false]) = some (none, H2 ++ [.row [.int .i64 r, .int .i64 c, .slice (some (H2.length + 1)) 0 (l0 :: L0).length 0 1 false, .slice none 0 0 0 1 false] 0 0 false, .row ((l0 :: L0).map (.int .i64)) 0 (l0 :: L0).length false]) := pt24 (by simp [zst]) rfl rfl (by simp)
      simp [zst] at hpt
      simp [addE, permL, okFn_low, e0, e1, hI, hz, ex]
      first | refine exX_mk (fun Q hQ => hbs _ Q hQ) (.refl _) ?_ | refine exX_mk (fun Q hQ => hbs _ Q hQ) (ex _) ?_ | refine exC_mk (fun Q hQ => hbs _ Q hQ) ?_
      simp [okFn_low, ex1, lsV, lsH]
      first | refine exX_mk (fun Q hQ => hbz _ Q hQ) (.refl _) ?_ | refine exX_mk (fun Q hQ => hbz _ Q hQ) (ex _) ?_ | refine exC_mk (fun Q hQ => hbz _ Q hQ) ?_
      simp [bd24s, lsV, lsH, zst, hpt]
      refine hfin H2.length (.slice (some (H2.length + 1)) 0 (l0 :: L0).length 0 1 false) (.slice none 0 0 0 1 false) (H2 ++ [.row [.int .i64 r, .int .i64 c, .slice (some (H2.length + 1)) 0 (l0 :: L0).length 0 1 false, .slice none 0 0 0 1 false] 0 0 false, .row ((l0 :: L0).map (.int .i64)) 0 (l0 :: L0).length false]) (by omega) rfl rfl ?_ ?_ ?_ ?_ (ex _)
      · exact .inr ⟨(H2.length + 1), 0, ((l0 :: L0)).length, by omega, by simp, by simp⟩
      · exact OwnF.nil _ _
      · intro a ha; first | (cases ha; done) | (cases ha; exact ⟨by omega, fun e => by first | cases e | (have := Option.some.inj e; omega)⟩)
      · simp
  · -- (l0 :: L0) (m0 :: M0)
    refine AWR_pair (x := 5) (y := 9) (ord := [0, 1, 2, 3, 4, 6, 9, 5, 7, 8, 10]) (by kernel_rfl) ?_ ?_
    · refine AWR_pair (x := 7) (y := 9) (ord := [0, 1, 2, 3, 4, 5, 6, 9, 7, 8, 10]) (by kernel_rfl) ?_ ?_
      · refine AWR_U [6, 7, 10, 12, 13, 14] [false, true, false, true, false, false, false, false, false, false] rfl (by kernel_rfl) ?_
        have hpt : storeV Try.prog 24 (H2 ++ [.row ((l0 :: L0).map (.int .i64)) 0 (l0 :: L0).length false, .row ((m0 :: M0).map (.int .i64)) 0 (m0 :: M0).length false, .row zst 0 0 false]) (.ptr (H2.length + 2) 0 0) (.agg [.int .i64 r, .int .i64 c, .slice (some H2.length) 0 (l0 :: L0).length 0 1 false, .slice (some (H2.length + 1)) 0 (m0 :: M0).length 0 1 false]) = some (none, H2 ++ [.row ((l0 :: L0).map (.int .i64)) 0 (l0 :: L0).length false, .row ((m0 :: M0).map (.int .i64)) 0 (m0 :: M0).length false, .row [.int .i64 r, .int .i64 c, .slice (some H2.length) 0 (l0 :: L0).length 0 1 false, .slice (some (H2.length + 1)) 0 (m0 :: M0).length 0 1 false] 0 0 false]) := pt24 (by simp [zst]) rfl rfl (by simp)
        simp [zst] at hpt
        simp [addE, okFn_low, e0, e1]
        first | refine exX_mk (fun Q hQ => hbs _ Q hQ) (.refl _) ?_ | refine exX_mk (fun Q hQ => hbs _ Q hQ) (ex _) ?_ | refine exC_mk (fun Q hQ => hbs _ Q hQ) ?_
        simp [okFn_low, lsV, lsH]
        first | refine exX_mk (fun Q hQ => hbz _ Q hQ) (.refl _) ?_ | refine exX_mk (fun Q hQ => hbz _ Q hQ) (ex _) ?_ | refine exC_mk (fun Q hQ => hbz _ Q hQ) ?_
        simp [bd24s, hI, hz, ex, ex1, lsV, lsH, zst, hpt]
        refine hfin (H2.length + 2) (.slice (some H2.length) 0 (l0 :: L0).length 0 1 false) (.slice (some (H2.length + 1)) 0 (m0 :: M0).length 0 1 false) (H2 ++ [.row ((l0 :: L0).map (.int .i64)) 0 (l0 :: L0).length false, .row ((m0 :: M0).map (.int .i64)) 0 (m0 :: M0).length false, .row [.int .i64 r, .int .i64 c, .slice (some H2.length) 0 (l0 :: L0).length 0 1 false, .slice (some (H2.length + 1)) 0 (m0 :: M0).length 0 1 false] 0 0 false]) (by omega) rfl rfl ?_ ?_ ?_ ?_ (ex _)
        · exact .inr ⟨H2.length, 0, ((l0 :: L0)).length, by omega, by simp, by simp⟩
        · exact .inr ⟨(H2.length + 1), 0, ((m0 :: M0)).length, by omega, by simp, by simp⟩
        · intro a ha; first | (cases ha; done) | (cases ha; exact ⟨by omega, fun e => by first | cases e | (have := Option.some.inj e; omega)⟩)
        · simp
      · refine AWR_U [6, 7, 10, 12, 13, 14] [false, true, false, true, false, false, false, false, false] rfl (by kernel_rfl) ?_
        have hpt : storeV Try.prog 24 (H2 ++ [.row ((l0 :: L0).map (.int .i64)) 0 (l0 :: L0).length false, .row zst 0 0 false, .row ((m0 :: M0).map (.int .i64)) 0 (m0 :: M0).length false]) (.ptr (H2.length + 1) 0 0) (.agg [.int .i64 r, .int .i64 c, .slice (some H2.length) 0 (l0 :: L0).length 0 1 false, .slice (some (H2.length + 2)) 0 (m0 :: M0).length 0 1 false]) = some (none, H2 ++ [.row ((l0 :: L0).map (.int .i64)) 0 (l0 :: L0).length false, .row [.int .i64 r, .int .i64 c, .slice (some H2.length) 0 (l0 :: L0).length 0 1 false, .slice (some (H2.length + 2)) 0 (m0 :: M0).length 0 1 false] 0 0 false, .row ((m0 :: M0).map (.int .i64)) 0 (m0 :: M0).length false]) := pt24 (by simp [zst]) rfl rfl (by simp)
        simp [zst] at hpt
        simp [addE, permL, okFn_low, e0, e1]
        first | refine exX_mk (fun Q hQ => hbs _ Q hQ) (.refl _) ?_ | refine exX_mk (fun Q hQ => hbs _ Q hQ) (ex _) ?_ | refine exC_mk (fun Q hQ => hbs _ Q hQ) ?_
        simp [okFn_low, hI, hz, ex, lsV, lsH]
        first | refine exX_mk (fun Q hQ => hbz _ Q hQ) (.refl _) ?_ | refine exX_mk (fun Q hQ => hbz _ Q hQ) (ex _) ?_ | refine exC_mk (fun Q hQ => hbz _ Q hQ) ?_
        simp [bd24s, ex2, lsV, lsH, zst, hpt]
        refine hfin (H2.length + 1) (.slice (some H2.length) 0 (l0 :: L0).length 0 1 false) (.slice (some (H2.length + 2)) 0 (m0 :: M0).length 0 1 false) (H2 ++ [.row ((l0 :: L0).map (.int .i64)) 0 (l0 :: L0).length false, .row [.int .i64 r, .int .i64 c, .slice (some H2.length) 0 (l0 :: L0).length 0 1 false, .slice (some (H2.length + 2)) 0 (m0 :: M0).length 0 1 false] 0 0 false, .row ((m0 :: M0).map (.int .i64)) 0 (m0 :: M0).length false]) (by omega) rfl rfl ?_ ?_ ?_ ?_ (ex _)
        · exact .inr ⟨H2.length, 0, ((l0 :: L0)).length, by omega, by simp, by simp⟩
        · exact .inr ⟨(H2.length + 2), 0, ((m0 :: M0)).length, by omega, by simp, by simp⟩
        · intro a ha; first | (cases ha; done) | (cases ha; exact ⟨by omega, fun e => by first | cases e | (have := Option.some.inj e; omega)⟩)
        · simp
    · refine AWR_U [6, 7, 10, 12, 13, 14] [false, true, false, true, false, false, false, false, false] rfl (by kernel_rfl) ?_
      have hpt : storeV Try.prog 24 (H2 ++ [.row zst 0 0 false, .row ((l0 :: L0).map (.int .i64)) 0 (l0 :: L0).length false, .row ((m0 :: M0).map (.int .i64)) 0 (m0 :: M0).length false]) (.ptr H2.length 0 0) (.agg [.int .i64 r, .int .i64 c, .slice (some (H2.length + 1)) 0 (l0 :: L0).length 0 1 false, .slice (some (H2.length + 2)) 0 (m0 :: M0).length 0 1 false]) = some (none, H2 ++ [.row [.int .i64 r, .int .i64 c, .slice (some (H2.length + 1)) 0 (l0 :: L0).length 0 1 false, .slice (some (H2.length + 2)) 0 (m0 :: M0).length 0 1 false] 0 0 false, .row ((l0 :: L0).map (.int .i64)) 0 (l0 :: L0).length false, .row ((m0 :: M0).map (.int .i64)) 0 (m0 :: M0).length false]) := pt24 (by simp [zst]) rfl rfl (by simp)
      simp [zst] at hpt
      simp [addE, permL, okFn_low, e0, e1, hI, hz, ex]
      first | refine exX_mk (fun Q hQ => hbs _ Q hQ) (.refl _) ?_ | refine exX_mk (fun Q hQ => hbs _ Q hQ) (ex _) ?_ | refine exC_mk (fun Q hQ => hbs _ Q hQ) ?_
      simp [okFn_low, ex1, lsV, lsH]
      first | refine exX_mk (fun Q hQ => hbz _ Q hQ) (.refl _) ?_ | refine exX_mk (fun Q hQ => hbz _ Q hQ) (ex _) ?_ | refine exC_mk (fun Q hQ => hbz _ Q hQ) ?_
      simp [bd24s, ex2, lsV, lsH, zst, hpt]
      refine hfin H2.length (.slice (some (H2.length + 1)) 0 (l0 :: L0).length 0 1 false) (.slice (some (H2.length + 2)) 0 (m0 :: M0).length 0 1 false) (H2 ++ [.row [.int .i64 r, .int .i64 c, .slice (some (H2.length + 1)) 0 (l0 :: L0).length 0 1 false, .slice (some (H2.length + 2)) 0 (m0 :: M0).length 0 1 false] 0 0 false, .row ((l0 :: L0).map (.int .i64)) 0 (l0 :: L0).length false, .row ((m0 :: M0).map (.int .i64)) 0 (m0 :: M0).length false]) (by omega) rfl rfl ?_ ?_ ?_ ?_ (ex _)
      · exact .inr ⟨(H2.length + 1), 0, ((l0 :: L0)).length, by omega, by simp, by simp⟩
      · exact .inr ⟨(H2.length + 2), 0, ((m0 :: M0)).length, by omega, by simp, by simp⟩
      · intro a ha; first | (cases ha; done) | (cases ha; exact ⟨by omega, fun e => by first | cases e | (have := Option.some.inj e; omega)⟩)
      · simp
end Go.Proofs.Ytfbpgnjeafadmaa.Fl

/- Sets as numbers: what is reached, days and choices are reckoned. -/
namespace Go.Proofs.Ytfbpgnjeafadmaa.Fl
open Go Go.Proofs.Ytfbpgnjeafadmaa Go.Proofs.Ytfbpgnjeafadmaa.AX

noncomputable def nxN (r c k O m : Nat) : Nat := (List.range (r * c)).foldl (fun a b => bif !m.testBit b && (O.testBit b && Nat.ble k (bes r c m.testBit b)) then a ||| (1 <<< b) else a) m
theorem bit1 (b x : Nat) : (1 <<< b).testBit x = decide (b = x) := by
  rw [Nat.shiftLeft_eq, Nat.one_mul, Nat.testBit_two_pow]
theorem nxN_fold (r c k O m : Nat) (b : Nat) : ∀ t, ((List.range t).foldl (fun a b => bif !m.testBit b && (O.testBit b && Nat.ble k (bes r c m.testBit b)) then a ||| (1 <<< b) else a) m).testBit b = (m.testBit b || (decide (b < t) && (O.testBit b && decide (k ≤ bes r c m.testBit b))))
  | 0 => by simp
  | t + 1 => by
    rw [List.range_succ, List.foldl_append, List.foldl_cons, List.foldl_nil]
    have ih := nxN_fold r c k O m b t
    generalize (List.range t).foldl _ m = a at ih ⊢
    have hk : Nat.ble k (bes r c m.testBit t) = decide (k ≤ bes r c m.testBit t) := by
      cases h : Nat.ble k (bes r c m.testBit t) with
      | true => exact (decide_eq_true (Nat.le_of_ble_eq_true h)).symm
      | false => exact (decide_eq_false fun h2 => by rw [Nat.ble_eq_true_of_le h2] at h; cases h).symm
    rw [hk]
    by_cases hb : b = t
    · subst hb
      have e1 : decide (b < b) = false := by simp
      have e2 : decide (b < b + 1) = true := by simp
      rw [e1] at ih
      rw [e2]
      simp only [Bool.false_and, Bool.or_false] at ih
      cases h1 : m.testBit b <;> cases h2 : O.testBit b <;> cases h3 : decide (k ≤ bes r c m.testBit b) <;> simp_all
    · have e : decide (b < t + 1) = decide (b < t) := decide_eq_decide.2 (by omega)
      rw [e, ← ih]
      cases (!m.testBit t && (O.testBit t && decide (k ≤ bes r c m.testBit t))) with
      | false => rfl
      | true =>
        show (a ||| 1 <<< t).testBit b = _
        rw [Nat.testBit_or, bit1, decide_eq_false (fun h => hb h.symm), Bool.or_false]

theorem nxN_tb (r c k O m : Nat) : tb (nxN r c k O m) = nxt r c k (tb O) (tb m) := by
  funext b
  exact nxN_fold r c k O m b (r * c)
noncomputable def itF (r c k O : Nat) : Nat → Nat → Nat := fun f => Nat.rec (fun m => m) (fun _ ih m => forceN (nxN r c k O m) fun x => bif Nat.beq x m then m else ih x) f
theorem itF_tb (r c k O : Nat) : ∀ f m, tb (itF r c k O f m) = D r c k (tb O) (tb m) f
  | 0, m => rfl
  | f + 1, m => by
    have h : itF r c k O (f + 1) m = forceN (nxN r c k O m) fun x => bif Nat.beq x m then m else itF r c k O f x := rfl
    rw [h, forceN_eq]
    have hs : D r c k (tb O) (tb m) (f + 1) = D r c k (tb O) (tb (nxN r c k O m)) f := by
      rw [nxN_tb]
      have : ∀ t, D r c k (tb O) (tb m) (t + 1) = D r c k (tb O) (nxt r c k (tb O) (tb m)) t := by
        intro t
        induction t with
        | zero => rfl
        | succ t ih => rw [D_succ, ih]; rfl
      exact this f
    cases hb : Nat.beq (nxN r c k O m) m with
    | true =>
      have e := Nat.eq_of_beq_eq_true hb
      have hst : D r c k (tb O) (tb m) 1 = D r c k (tb O) (tb m) 0 := by
        show nxt r c k (tb O) (tb m) = tb m
        rw [← nxN_tb, e]
      show tb m = _
      exact (D_stay (t := 0) hst (Nat.zero_le _)).symm
    | false =>
      show tb (itF r c k O f (nxN r c k O m)) = _
      rw [itF_tb r c k O f, hs]
noncomputable def spN (r c k O m : Nat) : Nat := itF r c k O (r * c) m
theorem spN_tb (r c k O m : Nat) : tb (spN r c k O m) = sp r c k (tb O) (tb m) := itF_tb r c k O (r * c) m
noncomputable def maskL : List Bool → Nat := fun l => List.rec 0 (fun b _ ih => forceN ih fun x => bif b then 2 * x + 1 else 2 * x) l
theorem maskL_cons (b : Bool) (l : List Bool) : maskL (b :: l) = 2 * maskL l + (if b then 1 else 0) := by
  show forceN (maskL l) (fun x => bif b then 2 * x + 1 else 2 * x) = _
  rw [forceN_eq]
  cases b <;> simp
theorem maskL_tb : ∀ (l : List Bool) (b : Nat), (maskL l).testBit b = l.getD b false
  | [], b => by simp [maskL]
  | x :: l, 0 => by
    rw [maskL_cons, Nat.testBit_zero]
    cases x <;> simp <;> omega
  | x :: l, b + 1 => by
    rw [maskL_cons, Nat.testBit_succ]
    have : (2 * maskL l + if x = true then 1 else 0) / 2 = maskL l := by split <;> omega
    rw [this, maskL_tb l b]
    simp
def boolsOf : List AV → Option (List Bool)
  | [] => some []
  | .bool b :: l => (boolsOf l).map (b :: ·)
  | _ :: _ => none
theorem boolsOf_eq : ∀ {l : List AV} {bs : List Bool}, boolsOf l = some bs → l = bs.map .bool
  | [], bs, h => by cases h; rfl
  | v :: l, bs, h => by
    cases v <;> simp only [boolsOf] at h <;> try cases h
    obtain ⟨cs, h1, rfl⟩ := Option.map_eq_some_iff.1 h
    rw [boolsOf_eq h1]; rfl
theorem bA_mask {l : List AV} {bs : List Bool} (h : boolsOf l = some bs) (hl : bs.length = 25) : l = bA (tb (maskL bs)) := by
  rw [boolsOf_eq h, bA]
  congr 1
  refine List.ext_getElem? fun i => ?_
  by_cases hi : i < 25
  · rw [mk_get hi, tb, maskL_tb, List.getElem?_eq_getElem (by omega)]
    simp [List.getD_eq_getElem?_getD, hl, hi]
  · have h1 : bs[i]? = none := by simp; omega
    have h2 : (mk (tb (maskL bs)))[i]? = none := by simp [mk]; omega
    rw [h1, h2]
/-- A row of marks, reckoned. -/
noncomputable def forceB {α : Type} (b : Bool) (k : Bool → α) : α := Bool.rec (k false) (k true) b
theorem forceB_eq {α : Type} (b : Bool) (k : Bool → α) : forceB b k = k b := by cases b <;> rfl
noncomputable def rowN {α : Type} (m : Nat) : Nat → Nat → (List AV → α) → α := fun n => Nat.rec (fun _ k => k []) (fun _ ih i k => forceB (m.testBit i) fun b => ih (Nat.succ i) fun l => k (.bool b :: l)) n
theorem rowN_eq {α : Type} (m : Nat) : ∀ (n i : Nat) (k : List AV → α), rowN m n i k = k ((List.range' i n).map fun b => .bool (tb m b))
  | 0, _, _ => rfl
  | n + 1, i, k => by
    show forceB (m.testBit i) (fun b => rowN m n (i + 1) fun l => k (.bool b :: l)) = _
    rw [forceB_eq, rowN_eq m n, List.range'_succ]
    rfl
theorem rowN_bA {α : Type} (m : Nat) (k : List AV → α) : rowN m 25 0 k = k (bA (tb m)) := by
  rw [rowN_eq]
  congr 1
/-- The first day, reckoned. -/
noncomputable def dayF (r c O b : Nat) : Nat → Nat → Nat → Int := fun f => Nat.rec (fun _ _ => -1) (fun _ ih t m => bif m.testBit b then (t : Int) else forceN (nxN r c 2 O m) fun x => bif Nat.beq x m then -1 else ih (Nat.succ t) x) f
theorem dayF_eq (r c O b m0 : Nat) : ∀ f t m, tb m = D r c 2 (tb O) (tb m0) t → (∀ s, s < t → D r c 2 (tb O) (tb m0) s b = false) → f + t = 26 → dayF r c O b f t m = day r c (tb O) (tb m0) b
  | 0, t, m, hm, hno, hft => by
    have : ¬ 0 ≤ day r c (tb O) (tb m0) b := by
      intro h
      have := (day_iff (t := 25) (b := b) (r := r) (c := c) (O := tb O) (S := tb m0) (by omega)).1 ⟨h, (day_range b).2⟩
      rw [hno 25 (by omega)] at this; cases this
    have h2 := (day_range (r := r) (c := c) (O := tb O) (S := tb m0) b).1
    show (-1 : Int) = _
    omega
  | f + 1, t, m, hm, hno, hft => by
    show (bif m.testBit b then (t : Int) else forceN (nxN r c 2 O m) fun x => bif Nat.beq x m then -1 else dayF r c O b f (t + 1) x) = _
    have hb : m.testBit b = D r c 2 (tb O) (tb m0) t b := congrFun hm b
    cases hd : m.testBit b with
    | true =>
      rw [hd] at hb
      cases t with
      | zero =>
        have := (day_iff (t := 0) (b := b) (r := r) (c := c) (O := tb O) (S := tb m0) (by omega)).2 hb.symm
        show ((0 : Nat) : Int) = _
        omega
      | succ t => exact (dayT_new (by omega) (hno t (by omega)) hb.symm).symm
    | false =>
      rw [hd] at hb
      show (forceN (nxN r c 2 O m) fun x => bif Nat.beq x m then -1 else dayF r c O b f (t + 1) x) = _
      rw [forceN_eq]
      have hm2 : tb (nxN r c 2 O m) = D r c 2 (tb O) (tb m0) (t + 1) := by rw [nxN_tb, hm, D_succ]
      cases he : Nat.beq (nxN r c 2 O m) m with
      | true =>
        have e := Nat.eq_of_beq_eq_true he
        have hst : D r c 2 (tb O) (tb m0) (t + 1) = D r c 2 (tb O) (tb m0) t := by rw [← hm2, e, hm]
        have : ¬ 0 ≤ day r c (tb O) (tb m0) b := by
          intro h
          have := (day_iff (t := 25) (b := b) (r := r) (c := c) (O := tb O) (S := tb m0) (by omega)).1 ⟨h, (day_range b).2⟩
          rw [D_stay hst (by omega), ← hb] at this; cases this
        have h2 := (day_range (r := r) (c := c) (O := tb O) (S := tb m0) b).1
        show (-1 : Int) = _
        omega
      | false =>
        show dayF r c O b f (t + 1) (nxN r c 2 O m) = _
        refine dayF_eq r c O b m0 f (t + 1) _ hm2 (fun s hs => ?_) (by omega)
        by_cases h : s = t
        · rw [h]; exact hb.symm
        · exact hno s (by omega)
theorem dayF_day (r c O b m : Nat) : dayF r c O b 26 0 m = day r c (tb O) (tb m) b := dayF_eq r c O b m 26 0 m rfl (fun s hs => by omega) rfl
/-- Choices, reckoned. -/
noncomputable def chNL (F : Nat) (rec : Nat → Nat → Nat × Bool) (C : Nat) : List Nat → Nat × Bool := fun l => List.rec (0, false) (fun b _ ih => bif F.testBit b then (match rec (Nat.succ b) (C ||| 1 <<< b) with | (T, true) => (T, true) | _ => ih) else ih) l
noncomputable def chN (fits : Nat → Bool) (F : Nat) : Nat → Nat → Nat → Nat × Bool := fun m => Nat.rec (fun _ C => (C, fits C)) (fun _ ih i C => chNL F ih C (List.range' i (25 - i))) m
def okR (a : Nat × Bool) (b : (Nat → Bool) × Bool) : Prop := tb a.1 = b.1 ∧ a.2 = b.2
theorem tb_zero : tb 0 = none' := by funext b; simp [tb, none']
theorem tb_upd (C b : Nat) : tb (C ||| 1 <<< b) = upd (tb C) b true := by
  funext x
  show (C ||| 1 <<< b).testBit x = if x = b then true else C.testBit x
  rw [Nat.testBit_or, bit1]
  by_cases h : x = b
  · subst h; simp
  · rw [if_neg h, decide_eq_false (fun e => h e.symm), Bool.or_false]
theorem chNL_ok {F : Nat} {rec : Nat → Nat → Nat × Bool} {rec' : Nat → (Nat → Bool) → (Nat → Bool) × Bool} (hr : ∀ i C, okR (rec i C) (rec' i (tb C))) (C : Nat) : ∀ l, okR (chNL F rec C l) (chL (tb F) rec' (tb C) l)
  | [] => ⟨tb_zero, rfl⟩
  | b :: l => by
    have e : chNL F rec C (b :: l) = bif F.testBit b then (match rec (Nat.succ b) (C ||| 1 <<< b) with | (T, true) => (T, true) | _ => chNL F rec C l) else chNL F rec C l := rfl
    rw [e]
    simp only [chL]
    have ih := chNL_ok (F := F) hr C l
    have h := hr (b + 1) (C ||| 1 <<< b)
    rw [tb_upd] at h
    cases hF : F.testBit b with
    | false =>
      rw [if_neg (by simp [tb, hF])]
      exact ih
    | true =>
      rw [if_pos (show tb F b = true from hF)]
      show okR (match rec (b + 1) (C ||| 1 <<< b) with | (T, true) => (T, true) | _ => chNL F rec C l) _
      obtain ⟨h1, h2⟩ := h
      rcases hx : rec (b + 1) (C ||| 1 <<< b) with ⟨T, t⟩
      rw [hx] at h1 h2
      cases t with
      | true => rw [if_pos h2.symm]; exact ⟨h1, rfl⟩
      | false => rw [if_neg (by rw [← h2]; simp)]; exact ih
theorem chN_ok {fits : Nat → Bool} {fits' : (Nat → Bool) → Bool} (hf : ∀ T, fits T = fits' (tb T)) (F : Nat) : ∀ m i C, okR (chN fits F m i C) (chP fits' (tb F) m i (tb C))
  | 0, _, C => ⟨rfl, hf C⟩
  | m + 1, _i, C => chNL_ok (chN_ok hf F m) C _
end Go.Proofs.Ytfbpgnjeafadmaa.Fl

/- The examples: that each law ends with, and of the chapter. -/
namespace Go.Proofs.Ytfbpgnjeafadmaa.Fl
open Go Go.Proofs.Ytfbpgnjeafadmaa Go.Proofs.Ytfbpgnjeafadmaa.AX

/-- What returns a list of its own and a number is as good as one that makes just the list's row. -/
theorem AC.tidyT {P : Program} {f : FuncId} {args : List AV} {l : List AV} {H : AH} {e : Int} (hne : l ≠ []) (hb : l.all (belB H.length 4) = true) (h : ∀ Q : AV → AH → Prop, (∀ v' H', OwnF H.length H' v' l → Ext H H' → Q (.tuple [v', .int .i64 e]) H') → AC P f args H Q) (Q : AV → AH → Prop)
    (hq : Q (.tuple [.slice (some H.length) 0 l.length 0 1 false, .int .i64 e]) (H ++ [.row l 0 l.length false])) : AC P f args H Q := by
  refine AC_fin (h _ fun v' H' hO hE => ?_)
  refine ⟨⟨hE.1, fun r o hr ho => .inl (by rw [← hE.2 r hr]; exact ho)⟩, ?_⟩
  have ht : H'.take H.length = H := by
    obtain ⟨T, rfl⟩ := hE.app
    simp
  rcases hO with ⟨h0, -⟩ | ⟨r, ver, stale, hr, rfl, hrow⟩
  · exact absurd h0 hne
  · have h0 : belB H.length 3 (.slice (some r) 0 l.length ver 1 false) = false := by simp [belB]; omega
    have h1 : belB H.length 4 (.slice (some r) 0 l.length ver 1 false) = false := by simp [belB]; omega
    have h1' : belB H.length 4 (.tuple [.slice (some r) 0 l.length ver 1 false, .int .i64 e]) = false := by
      simp [belB]; omega
    have h2 : finSlice H.length H' (.slice (some r) 0 l.length ver 1 false) = some (.slice (some H.length) 0 l.length 0 1 false, .row l 0 l.length false) := by
      simp only [finSlice, hrow, if_pos hr, Nat.mul_one, Nat.zero_add, List.drop_zero, List.take_length]
      rw [if_pos ⟨trivial, Nat.le_refl _, hb⟩]
    have hf : finish H.length H' (.tuple [.slice (some r) 0 l.length ver 1 false, .int .i64 e]) = (.tuple [.slice (some H.length) 0 l.length 0 1 false, .int .i64 e], H ++ [.row l 0 l.length false]) := by
      unfold finish
      rw [h1']
      simp only [Bool.false_eq_true, if_false, finList, h1, h2, List.all_cons, List.all_nil, belB_int, Bool.and_true, if_true, ht]
    rw [hf]; exact hq
def chV (H : AH) (l : List Int) : AV := match l with | [] => .slice none 0 0 0 1 false | _ :: _ => .slice (some H.length) 0 l.length 0 1 false
def chH (H : AH) (l : List Int) : AH := match l with | [] => H | _ :: _ => H ++ [.row (l.map (.int .i64)) 0 l.length false]
theorem AC.tidyN {P : Program} {f : FuncId} {args : List AV} {l : List Int} {H : AH} {e : Int} (h : ∀ Q : AV → AH → Prop, (∀ v' H', OwnN H.length H' v' l → Ext H H' → Q (.tuple [v', .int .i64 e]) H') → AC P f args H Q) (Q : AV → AH → Prop) (hq : Q (.tuple [chV H l, .int .i64 e]) (chH H l)) : AC P f args H Q := by
  cases l with
  | nil =>
    refine AC.quiet (v := .tuple [.slice none 0 0 0 1 false, .int .i64 e]) rfl (fun Q h2 => h Q fun v' H' hO hE => ?_) Q hq
    rw [hO.1 rfl]; exact h2 H' hE
  | cons x l =>
    refine AC.tidyT (l := (x :: l).map (.int .i64)) (by simp) (belB_ints _ _) (fun Q h2 => h Q fun v' H' hO hE => h2 v' H' hO.2 hE) Q ?_
    simpa [chV, chH] using hq
theorem cond_some {α : Type} {b : Bool} {x y : Option α} {r : α} (h : (bif b then x else y) = some r) : (b = true ∧ x = some r) ∨ y = some r := by
  cases b with
  | true => exact .inl ⟨rfl, h⟩
  | false => exact .inr h
def sdB (r c : Nat) : Bool := Nat.ble 1 r && (Nat.ble r 5 && (Nat.ble 1 c && Nat.ble c 5))
theorem sdB_sd {r c : Nat} (h : sdB r c = true) : Sd r c := by
  simp only [sdB, Bool.and_eq_true, Nat.ble_eq] at h
  exact ⟨h.1, h.2.1, h.2.2.1, h.2.2.2⟩
theorem tb_lt {m n : Nat} (h : m < 2 ^ n) (b : Nat) (hb : tb m b = true) : b < n := by
  apply Classical.byContradiction
  intro hn
  have : m.testBit b = false := Nat.testBit_lt_two_pow (Nat.lt_of_lt_of_le h (Nat.pow_le_pow_right (by decide) (by omega)))
  rw [show tb m b = m.testBit b from rfl, this] at hb
  cases hb
def opN (n z : Nat) : Nat := (2 ^ n - 1) &&& ((2 ^ 25 - 1) ^^^ z)
theorem opN_tb {n z : Nat} (hn : n ≤ 25) : tb (opN n z) = opn n (tb z) := by
  funext b
  show (opN n z).testBit b = (lt' n b && !tb z b)
  unfold opN lt' tb
  rw [Nat.testBit_and, Nat.testBit_xor, Nat.testBit_two_pow_sub_one, Nat.testBit_two_pow_sub_one]
  by_cases h : b < n
  · rw [decide_eq_true h, decide_eq_true (show b < 25 by omega)]; simp
  · rw [decide_eq_false h]; simp
theorem lt_tb (n : Nat) : tb (2 ^ n - 1) = lt' n := by
  funext b
  show (2 ^ n - 1).testBit b = decide (b < n)
  rw [Nat.testBit_two_pow_sub_one]
/-- The list that a slice of the memory reads as. -/
def rdL (H : AH) (r ver : Nat) : Nat → Nat → Option (List Int)
  | 0, _ => some []
  | n + 1, off => match ld H r off ver with
    | some (.int .i64 x) => (rdL H r ver n (off + 1)).map (x :: ·)
    | _ => none
def lsOf (H : AH) : AV → Option (List Int)
  | .slice none _ 0 _ _ _ => some []
  | .slice (some r) off len ver 1 _ => rdL H r ver len off
  | _ => none
theorem rdL_ok {H : AH} {r ver : Nat} : ∀ (n off : Nat) {l : List Int}, rdL H r ver n off = some l → l.length = n ∧ ∀ i (h : i < l.length), ld H r (off + i) ver = some (.int .i64 l[i])
  | 0, _, l, h => by cases h; exact ⟨rfl, fun i h => by simp at h⟩
  | n + 1, off, l, h => by
    simp only [rdL] at h
    split at h
    · rename_i x hx
      obtain ⟨m, h1, rfl⟩ := Option.map_eq_some_iff.1 h
      obtain ⟨h2, h3⟩ := rdL_ok n (off + 1) h1
      refine ⟨by simp [h2], fun i hi => ?_⟩
      cases i with
      | zero => simpa using hx
      | succ i =>
        have := h3 i (by simpa using hi)
        rw [show off + 1 + i = off + (i + 1) by omega] at this
        simpa using this
    · cases h
theorem lsOf_ok {H : AH} {u : AV} {l : List Int} (h : lsOf H u = some l) : Ls H u l := by
  unfold lsOf at h
  split at h
  · cases h; exact ⟨none, _, _, _, _, rfl, fun i h => by simp at h⟩
  · rename_i r off len ver full
    obtain ⟨h1, h2⟩ := rdL_ok _ _ h
    subst h1
    exact ⟨some r, off, ver, 1, full, rfl, fun i hi => ⟨r, rfl, rfl, h2 i hi⟩⟩
  · cases h
/-- Marks of a row of cells. -/
noncomputable def mskA {α : Type} (l : List AV) (k : Nat → Option α) : Option α := match boolsOf l with
  | some bs => bif Nat.beq bs.length 25 then forceN (maskL bs) k else none
  | none => none
theorem mskA_some {α : Type} {l : List AV} {k : Nat → Option α} {x : α} (h : mskA l k = some x) : ∃ m, l = bA (tb m) ∧ k m = some x := by
  unfold mskA at h
  split at h
  · rename_i bs hb
    cases hl : Nat.beq bs.length 25 with
    | false => rw [hl] at h; cases h
    | true =>
      rw [hl] at h
      exact ⟨maskL bs, bA_mask hb (Nat.eq_of_beq_eq_true hl), by rw [← forceN_eq (maskL bs) k]; exact h⟩
  · cases h
/-- What a call of reached answers. -/
noncomputable def reaX (r c k : Nat) (s o : List AV) (H : AH) : Option (AV × AH) := bif sdB r c then mskA s fun m => mskA o fun z => bif Nat.blt m (2 ^ (r * c)) then rowN (spN r c k z m) 25 0 fun l => some (.agg l, H) else none else none
noncomputable def dayX (r c : Nat) (cells : List AV) (H : AH) : Option (AV × AH) := bif sdB r c then mskA (cells.take 25) fun m => mskA (cells.drop 25) fun z => bif Nat.blt m (2 ^ (r * c)) then forceN (opN (r * c) z) fun o => some (.agg (iA fun b => dayF r c o b 26 0 m), H) else none else none
noncomputable def safX (r c : Nat) (cells t : List AV) (H : AH) : Option (AV × AH) := bif sdB r c then mskA (cells.take 25) fun m => mskA (cells.drop 25) fun z => mskA t fun y => bif Nat.blt y (2 ^ (r * c)) then some (.bool (safeS r c (r * c) (tb m) (tb z) (tb y)), H) else none else none
noncomputable def fitN (r c n T : Nat) : Bool := forceN (spN r c 2 (2 ^ n - 1) T) fun x => (List.range 25).all fun i => x.testBit i == (2 ^ n - 1).testBit i
theorem fitN_ok (r c n T : Nat) : fitN r c n T = fitP r c n (tb T) := by
  unfold fitN fitP
  rw [forceN_eq]
  have h1 := spN_tb r c 2 (2 ^ n - 1) T
  rw [lt_tb] at h1
  rw [← h1, ← lt_tb n]
  rfl
noncomputable def plaX (m k : Nat) (H : AH) : Option (AV × AH) := bif sdB m k then (let l := num (tb (chN (fitN m k (m * k)) (2 ^ (m * k) - 1) ((m + k + 1) / 2) 0 0).1); some (.tuple [chV H l, .int .i64 0], chH H l)) else none
theorem plaX_ok {m k : Nat} (h : sdB m k = true) : num (tb (chN (fitN m k (m * k)) (2 ^ (m * k) - 1) ((m + k + 1) / 2) 0 0).1) = plantS m k (m * k) := by
  have := (chN_ok (fits' := fitP m k (m * k)) (fitN_ok m k (m * k)) (2 ^ (m * k) - 1) ((m + k + 1) / 2) 0 0).1
  rw [lt_tb, tb_zero] at this
  rw [this]; rfl
/-- A set as a number. -/
noncomputable def mskF (S : Nat → Bool) : Nat := maskL (mk S)
theorem mskF_tb {S : Nat → Bool} (h : ∀ b, S b = true → b < 25) : tb (mskF S) = S := by
  funext b
  show (maskL (mk S)).testBit b = S b
  rw [maskL_tb, List.getD_eq_getElem?_getD]
  by_cases hb : b < 25
  · rw [mk_get hb]; rfl
  · have : (mk S)[b]? = none := by simp [mk]; omega
    rw [this]
    cases hs : S b with
    | false => rfl
    | true => exact absurd (h b hs) hb
noncomputable def fitKN (r c n s z b T : Nat) : Bool := !(spN r c 2 (opN n (z ||| T)) s).testBit b
theorem or_tb (z T : Nat) : tb (z ||| T) = or' (tb z) (tb T) := by
  funext b
  exact Nat.testBit_or ..
theorem fitKN_ok {r c n : Nat} (hn : n ≤ 25) (s z b T : Nat) : fitKN r c n s z b T = fitK r c n (tb s) (tb z) b (tb T) := by
  unfold fitKN fitK
  have h1 := spN_tb r c 2 (opN n (z ||| T)) s
  rw [opN_tb hn, or_tb] at h1
  rw [← h1]; rfl
/-- The least choice that keeps a bale, of so many at most. -/
noncomputable def keepF (f : Nat → Nat × Bool) : Nat → Nat → Option Nat := fun n => Nat.rec (fun _ => none) (fun _ ih j => match f j with | (T, true) => some T | _ => ih (Nat.succ j)) n
theorem keepF_some {f : Nat → Nat × Bool} : ∀ (n j : Nat) {T : Nat}, keepF f n j = some T → ∃ i, j ≤ i ∧ i < j + n ∧ f i = (T, true) ∧ ∀ a, j ≤ a → a < i → (f a).2 = false
  | 0, _, _, h => by cases h
  | n + 1, j, T, h => by
    have h : (match f j with | (T, true) => some T | _ => keepF f n (j + 1)) = some T := h
    rcases hx : f j with ⟨A, t⟩
    rw [hx] at h
    cases t with
    | true => cases h; exact ⟨j, Nat.le_refl _, by omega, hx, fun a h1 h2 => by omega⟩
    | false =>
      obtain ⟨i, h1, h2, h3, h4⟩ := keepF_some n (j + 1) h
      refine ⟨i, by omega, by omega, h3, fun a h5 h6 => ?_⟩
      by_cases e : a = j
      · rw [e, hx]
      · exact h4 a (by omega) h6
noncomputable def keeX (m k b : Nat) (u w : AV) (H : AH) : Option (AV × AH) := match lsOf H u, lsOf H w with
  | some l, some o => bif Nat.ble l.length 1000 && (Nat.ble o.length 1000 && decide (chkE m k l o = 0) && Nat.blt b (m * k)) then
      forceN (mskF (sickS m k l).1) fun s => forceN (mskF (coldS m k l o).1) fun z =>
        bif lostS m k (tb s) (tb z) b then some (.tuple [.slice none 0 0 0 1 false, .int .i64 12], H) else
        forceN (mskF (freeS (m * k) (tb s) (tb z) b)) fun fr => match keepF (fun j => chN (fitKN m k (m * k) s z b) fr j 0 0) 4 0 with
          | some T => some (.tuple [chV H (num (tb T)), .int .i64 0], chH H (num (tb T)))
          | none => none
    else none
  | _, _ => none
noncomputable def ext9 (f : FuncId) (args : List AV) (H : AH) : Option (AV × AH) := match args with
  | [.agg [.int .i64 (.ofNat r), .int .i64 (.ofNat c)], .agg s, .agg o, .int .i64 (.ofNat k)] => bif Nat.beq f 75 then reaX r c k s o H else none
  | [.agg (.int .i64 (.ofNat r) :: .int .i64 (.ofNat c) :: cells)] => bif Nat.beq f 57 then dayX r c cells H else none
  | [.agg (.int .i64 (.ofNat r) :: .int .i64 (.ofNat c) :: cells), .agg t] => bif Nat.beq f 69 then safX r c cells t H else none
  | [.int .i64 (.ofNat m), .int .i64 (.ofNat k)] => bif Nat.beq f 36 then plaX m k H else none
  | [.agg [.int .i64 (.ofNat m), .int .i64 (.ofNat k), u, w], .int .i64 (.ofNat b)] => bif Nat.beq f 38 then keeX m k b u w H else none
  | _ => none
theorem fl_of {r c : Nat} {cells : List AV} {m z : Nat} (h1 : cells.take 25 = bA (tb m)) (h2 : cells.drop 25 = bA (tb z)) : AV.int .i64 (Int.ofNat r) :: .int .i64 (Int.ofNat c) :: cells = fl r c (tb m) (tb z) := by
  rw [← List.take_append_drop 25 cells, h1, h2]; rfl
theorem ext9_ok {f : FuncId} {args : List AV} {H : AH} {v : AV} {H' : AH} (h : ext9 f args H = some (v, H')) : AC Try.prog f args H fun v' H2 => v' = v ∧ H2 = H' := by
  unfold ext9 at h
  split at h
  · rename_i r c s o k
    rcases cond_some h with ⟨e, hx⟩ | h
    · clear h
      have h := hx
      clear hx
      have := Nat.eq_of_beq_eq_true e; subst this
      unfold reaX at h
      rcases cond_some h with ⟨e9, h1⟩ | h1
      · have hs := sdB_sd e9
        clear h
        obtain ⟨m, rfl, h2⟩ := mskA_some h1
        clear h1
        obtain ⟨z, rfl, h3⟩ := mskA_some h2
        clear h2
        rcases cond_some h3 with ⟨e2, h⟩ | h
        · rw [rowN_bA, spN_tb] at h
          obtain ⟨rfl, rfl⟩ := Prod.mk.inj (Option.some.inj h)
          exact reached_q hs rfl k (tb m) (tb z) (tb_lt (by simpa [Nat.blt_eq] using e2)) _ _ ⟨rfl, rfl⟩
        · cases h
      · cases h1
    · cases h
  · rename_i r c cells
    rcases cond_some h with ⟨e, hx⟩ | h
    · clear h
      have h := hx
      clear hx
      have := Nat.eq_of_beq_eq_true e; subst this
      unfold dayX at h
      rcases cond_some h with ⟨e9, g1⟩ | g1
      · have hs := sdB_sd e9
        clear h
        obtain ⟨m, h1, g2⟩ := mskA_some g1
        clear g1
        obtain ⟨z, h2, g3⟩ := mskA_some g2
        clear g2
        rcases cond_some g3 with ⟨e2, h⟩ | h
        · rw [forceN_eq] at h
          obtain ⟨rfl, rfl⟩ := Prod.mk.inj (Option.some.inj h)
          rw [fl_of h1 h2]
          have hd : (fun b => dayF r c (opN (r * c) z) b 26 0 m) = day r c (opn (r * c) (tb z)) (tb m) := by
            funext b
            rw [dayF_day, opN_tb hs.le]
          rw [hd]
          refine AC.quiet (belB_i _ _) (fun Q hQ => days_ac hs rfl (tb m) (tb z) (tb_lt (by simpa [Nat.blt_eq] using e2)) _ Q hQ) _ ⟨rfl, rfl⟩
        · cases h
      · cases g1
    · cases h
  · rename_i r c cells t
    rcases cond_some h with ⟨e, hx⟩ | h
    · clear h
      have h := hx
      clear hx
      have := Nat.eq_of_beq_eq_true e; subst this
      unfold safX at h
      rcases cond_some h with ⟨e9, g1⟩ | g1
      · have hs := sdB_sd e9
        clear h
        obtain ⟨m, h1, g2⟩ := mskA_some g1
        clear g1
        obtain ⟨z, h2, g3⟩ := mskA_some g2
        clear g2
        obtain ⟨y, rfl, g4⟩ := mskA_some g3
        clear g3
        rcases cond_some g4 with ⟨e2, h⟩ | h
        · obtain ⟨rfl, rfl⟩ := Prod.mk.inj (Option.some.inj h)
          rw [fl_of h1 h2]
          exact safe_ac hs rfl (tb m) (tb z) (tb y) (tb_lt (by simpa [Nat.blt_eq] using e2)) _ _ ⟨rfl, rfl⟩
        · cases h
      · cases g1
    · cases h
  · rename_i m k
    rcases cond_some h with ⟨e, hx⟩ | h
    · clear h
      have h := hx
      clear hx
      have := Nat.eq_of_beq_eq_true e; subst this
      unfold plaX at h
      rcases cond_some h with ⟨e9, h⟩ | h
      · have hs := sdB_sd e9
        have hsd : okSides (m : Int) k := ⟨⟨by have := hs.r1; omega, by have := hs.r5; omega⟩, by have := hs.c1; omega, by have := hs.c5; omega⟩
        simp only [plaX_ok e9] at h
        obtain ⟨rfl, rfl⟩ := Prod.mk.inj (Option.some.inj h)
        exact AC.tidyN (fun Q hQ => Plant_ac m k H Q (fun hn => absurd hsd hn) fun _ => hQ) _ ⟨rfl, rfl⟩
      · cases h
    · cases h
  · rename_i m k u w b
    rcases cond_some h with ⟨e, hx⟩ | h
    · clear h
      have h := hx
      clear hx
      have := Nat.eq_of_beq_eq_true e; subst this
      unfold keeX at h
      split at h
      · rename_i l o hu hw
        rcases cond_some h with ⟨e9, h⟩ | h
        · simp only [Bool.and_eq_true, Nat.ble_eq, decide_eq_true_eq, Nat.blt_eq] at e9
          obtain ⟨e1, ⟨e2, e3⟩, e4⟩ := e9
          have hs := (chk_sides e3).sd
          rw [Int.toNat_natCast, Int.toNat_natCast] at hs
          have h25 := hs.le
          have hS := sickS_sup m k l
          have hZ := coldS_sup m k l o
          rw [Int.toNat_natCast, Int.toNat_natCast] at hS hZ
          rw [forceN_eq, forceN_eq, mskF_tb (fun b hb => Nat.lt_of_lt_of_le (hS b hb) h25), mskF_tb (fun b hb => Nat.lt_of_lt_of_le (hZ b hb) h25)] at h
          have hin : (0 : Int) ≤ (b : Int) ∧ (b : Int) < (((m : Int).toNat * (k : Int).toNat : Nat) : Int) := by
            rw [Int.toNat_natCast, Int.toNat_natCast]; omega
          have hu := lsOf_ok hu
          have hw := lsOf_ok hw
          generalize hSS : (sickS m k l).1 = S at h hS
          generalize hZZ : (coldS m k l o).1 = Z at h hZ
          have hS25 : ∀ b, S b = true → b < 25 := fun b hb => Nat.lt_of_lt_of_le (hS b hb) h25
          have hZ25 : ∀ b, Z b = true → b < 25 := fun b hb => Nat.lt_of_lt_of_le (hZ b hb) h25
          cases hlo : lostS m k S Z b with
          | true =>
            rw [hlo] at h
            obtain ⟨rfl, rfl⟩ := Prod.mk.inj (Option.some.inj (show some (AV.tuple [.slice none 0 0 0 1 false, .int .i64 12], H) = some (v, H') from h))
            refine AC.quiet (v := .tuple [.slice none 0 0 0 1 false, .int .i64 12]) rfl (fun Q hQ => ?_) _ ⟨rfl, rfl⟩
            refine Keep_ac m k u w l o b H Q hu hw (by omega) (by omega) (fun hc => absurd e3 hc) (fun _ hn => absurd hin hn) (fun _ _ _ => hQ) (fun _ _ hf => ?_) (fun _ _ hf => ?_)
            · rw [Int.toNat_natCast, Int.toNat_natCast, Int.toNat_natCast, hSS, hZZ, hlo] at hf; cases hf
            · rw [Int.toNat_natCast, Int.toNat_natCast, Int.toNat_natCast, hSS, hZZ, hlo] at hf; cases hf
          | false =>
            rw [hlo] at h
            have h : (forceN (mskF (freeS (m * k) S Z b)) fun fr => match keepF (fun j => chN (fitKN m k (m * k) (mskF S) (mskF Z) b) fr j 0 0) 4 0 with
              | some T => some (.tuple [chV H (num (tb T)), .int .i64 0], chH H (num (tb T)))
              | none => none) = some (v, H') := h
            rw [forceN_eq] at h
            split at h
            · rename_i T hT
              obtain ⟨rfl, rfl⟩ := Prod.mk.inj (Option.some.inj h)
              have hfr : ∀ x, freeS (m * k) S Z b x = true → x < 25 := by
                intro x hx
                simp only [freeS, upd, sub', opn, lt'] at hx
                split at hx
                · cases hx
                · simp only [Bool.and_eq_true, decide_eq_true_eq] at hx
                  omega
              have hch : ∀ j, okR (chN (fitKN m k (m * k) (mskF S) (mskF Z) b) (mskF (freeS (m * k) S Z b)) j 0 0) (chP (fitK m k (m * k) S Z b) (freeS (m * k) S Z b) j 0 none') := by
                intro j
                have := chN_ok (fits := fitKN m k (m * k) (mskF S) (mskF Z) b) (fits' := fitK m k (m * k) S Z b) (fun T => by rw [fitKN_ok h25 (mskF S) (mskF Z) b T, mskF_tb hS25, mskF_tb hZ25]) (mskF (freeS (m * k) S Z b)) j 0 0
                rwa [tb_zero, mskF_tb hfr] at this
              obtain ⟨i, -, hi4, hfi, hno⟩ := keepF_some 4 0 hT
              have hi2 : (chP (fitK m k (m * k) S Z b) (freeS (m * k) S Z b) i 0 none').2 = true := by rw [← (hch i).2, hfi]
              have hi1 : (chP (fitK m k (m * k) S Z b) (freeS (m * k) S Z b) i 0 none').1 = tb T := by rw [← (hch i).1, hfi]
              refine AC.tidyN (fun Q hQ => ?_) _ ⟨rfl, rfl⟩
              refine Keep_ac m k u w l o b H Q hu hw (by omega) (by omega) (fun hc => absurd e3 hc) (fun _ hn => absurd hin hn) (fun _ _ hf => ?_) (fun _ _ hf => ?_) (fun _ _ hf => ?_)
              · rw [Int.toNat_natCast, Int.toNat_natCast, Int.toNat_natCast, hSS, hZZ, hlo] at hf; cases hf
              · rw [Int.toNat_natCast, Int.toNat_natCast, Int.toNat_natCast, hSS, hZZ]
                exact ⟨i, by omega, hi2⟩
              · rw [Int.toNat_natCast, Int.toNat_natCast, Int.toNat_natCast, hSS, hZZ]
                intro j hj hno2 hj2
                have hji : j = i := by
                  rcases Nat.lt_trichotomy j i with h | h | h
                  · rw [← (hch j).2, hno j (Nat.zero_le _) h] at hj2; cases hj2
                  · exact h
                  · rw [hno2 i h] at hi2; cases hi2
                subst hji
                rw [hi1]
                exact hQ
            · cases h
        · cases h
      · cases h
    · cases h
  · cases h
noncomputable def cxw : Cx Try.prog where
  good := goodT
  keep := keepT
  ext := ext9
theorem cxw_ok : cxw.Ok where
  mixed := cx_ok.mixed
  ord f h := cx_ok.ord f h
  ext _f _args _H _v _H' h := ext9_ok h
set_option maxRecDepth 100000 in
theorem works_run : callN (runZ cxw 3000) 17 [] [] = some (.bool true, []) := by kernel_rfl
theorem works_ac (H : AH) (Q : AV → AH → Prop) (h : Q (.bool true) H) : AC Try.prog 17 [] H Q := AC_kernZ cxw_ok 3000 works_run .nil (.bool _) h
end Go.Proofs.Ytfbpgnjeafadmaa.Fl
