/- What is safe by itself; the closures of Plant and Keep. -/
import Derived.Test.YtfbpgnjeafadmaaPla
namespace Go.Proofs.Ytfbpgnjeafadmaa.Fl
open Go Go.Proofs.Ytfbpgnjeafadmaa Go.Proofs.Ytfbpgnjeafadmaa.AX
set_option maxRecDepth 100000

def safeS (r c n : Nat) (S Z T : Nat → Bool) : Bool := (num T).all fun x => !S x.toNat && (Z x.toNat || decide (bes r c (sub' (opn n Z) T) x.toNat < 2))
theorem new79 (H : AH) (T : Nat → Bool) : storeV Try.prog 79 (H ++ [AObj.row (bA none') 0 0 false]) (.ptr H.length 0 0) (.agg (bA T)) = some (none, H ++ [AObj.row (bA T) 0 0 false]) := by
  rw [st_m (S := none') (s := 0) (by simp)]
  simp
theorem safe_ac {r c n : Nat} (hs : Sd r c) (hn : r * c = n) (S Z T : Nat → Bool) (hT : ∀ b, T b = true → b < n) (H : AH) (Q : AV → AH → Prop) (h : Q (.bool (safeS r c n S Z T)) H) : AC Try.prog 69 [.agg (fl r c S Z), .agg (bA T)] H Q := by
  refine AC.quiet (belB_bool _ _ _) (fun Q h => ?_) Q h
  have h25 := hs.le
  refine L_body 37 Try.func69 rfl rfl ?_
  obtain ⟨I, hI, hz⟩ := zeroT_some zt79'
  refine L_reg [2, 3, 4] (fun K hK => ?_)
  simp [AV.isU, acells]
  apply hK; clear hK K
  have h2 : (H ++ [AObj.row (fl r c S Z) 0 0 false, AObj.row (bA T) 0 0 false])[H.length]? = some (.row (fl r c S Z) 0 0 false) := by simp
  have h3 : (H ++ [AObj.row (fl r c S Z) 0 0 false, AObj.row (bA T) 0 0 false])[H.length + 1]? = some (.row (bA T) 0 0 false) := by simp
  have hl : (H ++ [AObj.row (fl r c S Z) 0 0 false, AObj.row (bA T) 0 0 false]).length = H.length + 2 := by simp
  have hE : Ext H (H ++ [AObj.row (fl r c S Z) 0 0 false, AObj.row (bA T) 0 0 false]) := .push _ _
  generalize H ++ [AObj.row (fl r c S Z) 0 0 false, AObj.row (bA T) 0 0 false] = H1 at h2 h3 hl hE ⊢
  have aF := ldn_F h2
  have aT := ldn_b h3
  have ex : ∀ l : AH, Ext H1 (H1 ++ l) := fun l => .push _ _
  refine L_regR mixed (fun K hK => ?_)
  have hfin : K .normal [(2, .ptr H.length 0 0), (3, .ptr (H.length + 1) 0 0), (5, .ptr H1.length 0 0)] (H1 ++ [AObj.row (bA (sub' (opn n Z) T)) 0 0 false]) := by
    apply hK; clear hK K
    have h5 : (H1 ++ [AObj.row (bA (sub' (opn n Z) T)) 0 0 false])[H.length + 2]? = some (.row (bA (sub' (opn n Z) T)) 0 0 false) := by rw [← hl]; simp
    rw [hl]
    replace h2 := (ex [AObj.row (bA (sub' (opn n Z) T)) 0 0 false]).row h2
    replace h3 := (ex [AObj.row (bA (sub' (opn n Z) T)) 0 0 false]).row h3
    replace hE := hE.trans (ex [AObj.row (bA (sub' (opn n Z) T)) 0 0 false])
    clear aF aT ex
    generalize H1 ++ [AObj.row (bA (sub' (opn n Z) T)) 0 0 false] = H2 at h2 h3 h5 hE ⊢
    have aT := ldn_b h3
    refine L_reg [2, 5, 13, 14, 15] (fun K hK => ?_)
    simp [okFn_low, aT]
    refine list_ac _ _ _ (fun v H3 hN hE2 => ?_)
    have hO := hN.2
    clear hN
    have hv := ownF_ls hO
    simp [ls_len hv]
    apply hK; clear hK K
    replace h2 := hE2.row h2
    replace h5 := hE2.row h5
    replace hE := hE.trans hE2
    clear aT h3 hE2 hO
    have hLl := num_len T
    have a0 := ldn_F0 h2
    have a5 := ldn_b h5
    refine L_block (L_loopV [15] (fun q vs H' => ∃ i : Nat, q = (num T).length - i ∧ i ≤ (num T).length ∧ vs = [.int .i64 i] ∧ H3 = H' ∧ ((num T).drop i).all (fun x => !S x.toNat && (Z x.toNat || decide (bes r c (sub' (opn n Z) T) x.toNat < 2))) = safeS r c n S Z T) _ [.int .i64 (0 : Nat)] rfl ⟨0, rfl, by omega, rfl, rfl, rfl⟩ ?_)
    rintro q _ _ ⟨i, rfl, hi, rfl, rfl, hall⟩
    refine L_reg [2, 5, 13, 14, 15, 16] (fun K hK => ?_)
    simp
    apply hK; clear hK K
    refine L_dec (i < (num T).length) (by simp) (fun hlt => ?_) (fun hge => L_exit ?_)
    · refine L_block ?_
      obtain ⟨rz, pz, vz, hix, hldz⟩ := ls_ix hv hlt
      obtain ⟨b, hb, hb25, hTb⟩ := num_at hlt
      have hbn := hT b hTb
      rw [List.drop_eq_getElem_cons hlt, ← g_lt hlt, hb, List.all_cons, Int.toNat_natCast] at hall
      rw [hb] at hldz
      have hbi : (b : Int) < 25 := by omega
      have a1 := ld_F1 h2 hb25
      have a2 := ld_F2 h2 hb25
      refine L_reg [2, 5, 7, 13, 14, 15] (fun K hK => ?_)
      simp [hix, hldz]
      apply hK; clear hK K
      refine L_reg [2, 5, 7, 13, 14, 15, 22] (fun K hK => ?_)
      simp [hbi, a1]
      apply hK; clear hK K
      cases hSb : S b with
      | true =>
        rw [hSb] at hall
        refine L_true (by simp) ?_
        refine L_reg [4] (fun K hK => ?_)
        simp
        apply hK; clear hK K
        refine L_ret ⟨.inr rfl, _, rfl, ?_⟩
        have : safeS r c n S Z T = false := by rw [← hall]; rfl
        rw [this] at h
        exact h _ hE
      | false =>
        rw [hSb] at hall
        refine L_false (by simp) ?_
        obtain ⟨t, ht⟩ : ∃ t, (!Z b && decide (2 ≤ bes r c (sub' (opn n Z) T) b)) = t := ⟨_, rfl⟩
        refine L_reg [2, 5, 13, 14, 15, 35] (fun K hK => ?_)
        suffices hk : K [(2, .ptr H.length 0 0), (5, .ptr (H.length + 2) 0 0), (13, v), (14, .int .i64 (num T).length), (15, .int .i64 i), (35, .bool t)] H3 by
          cases hZb : Z b with
          | true =>
            rw [hZb] at ht a2
            have ht : false = t := ht
            subst ht
            simp [hbi, a2, pickV]
            exact hk
          | false =>
            rw [hZb] at ht a2
            have e : decide ((2 : Int) ≤ (bes r c (sub' (opn n Z) T) b : Nat)) = decide (2 ≤ bes r c (sub' (opn n Z) T) b) := decide_eq_decide.2 (by omega)
            have ht : decide (2 ≤ bes r c (sub' (opn n Z) T) b) = t := by simpa using ht
            simp [okFn_low, hbi, a2, a0, a5]
            refine beside_q hs b (by omega) _ _ _ ?_
            simp [pickV]
            rw [e, ht]
            exact hk
        apply hK; clear hK K
        have hx : (Z b || decide (bes r c (sub' (opn n Z) T) b < 2)) = !t := by
          rw [← ht]
          by_cases h2 : 2 ≤ bes r c (sub' (opn n Z) T) b
          · rw [decide_eq_true h2, decide_eq_false (by omega)]; simp
          · rw [decide_eq_false h2, decide_eq_true (by omega)]; simp
        rw [hx] at hall
        cases t with
        | true =>
          refine L_true (by simp) ?_
          refine L_reg [4] (fun K hK => ?_)
          simp
          apply hK; clear hK K
          refine L_ret ⟨.inr rfl, _, rfl, ?_⟩
          have : safeS r c n S Z T = false := by rw [← hall]; rfl
          rw [this] at h
          exact h _ hE
        | false =>
          refine L_false (by simp) ?_
          refine L_reg [2, 5, 13, 14, 15] (fun K hK => ?_)
          simp [wrap_i64 (a := (i : Int) + 1) (by omega)]
          apply hK; clear hK K
          exact ⟨(num T).length - (i + 1), [.int .i64 (i + 1 : Nat)], by omega, by simp, i + 1, rfl, by omega, rfl, rfl, by rw [← hall]; rfl⟩
    · have e : i = (num T).length := by omega
      rw [e, List.drop_length] at hall
      refine L_reg [4] (fun K hK => ?_)
      simp
      apply hK; clear hK K
      refine L_ret ⟨.inr rfl, _, rfl, ?_⟩
      have : safeS r c n S Z T = true := by rw [← hall]; rfl
      rw [this] at h
      exact h _ hE
  refine AWR_pair (x := 1) (y := 4) (ord := [0, 2, 4, 1, 3, 5]) (by kernel_rfl) ?_ ?_
  · refine AWR_pair (x := 3) (y := 4) (ord := [0, 1, 2, 4, 3, 5]) (by kernel_rfl) ?_ ?_
    · refine AWR_U [2, 3, 5] [false, false, true] rfl (by kernel_rfl) ?_
      simp [addE, okFn_low, aF]
      first | refine exX_mk (fun Q hQ => open_q hs hn S Z _ Q hQ) (.refl _) ?_ | refine exX_mk (fun Q hQ => open_q hs hn S Z _ Q hQ) (ex _) ?_ | refine exC_mk (fun Q hQ => open_q hs hn S Z _ Q hQ) ?_
      simp [okFn_low, aT]
      first | refine exX_mk (fun Q hQ => without_q _ _ _ Q hQ) (.refl _) ?_ | refine exX_mk (fun Q hQ => without_q _ _ _ Q hQ) (ex _) ?_ | refine exC_mk (fun Q hQ => without_q _ _ _ Q hQ) ?_
      simp [hI, hz, new79]
      exact hfin
    · refine AWR_U [2, 3, 5] [false, false, true, false] rfl (by kernel_rfl) ?_
      simp [addE, permL, okFn_low, aF]
      first | refine exX_mk (fun Q hQ => open_q hs hn S Z _ Q hQ) (.refl _) ?_ | refine exX_mk (fun Q hQ => open_q hs hn S Z _ Q hQ) (ex _) ?_ | refine exC_mk (fun Q hQ => open_q hs hn S Z _ Q hQ) ?_
      simp [okFn_low, aT, hI, hz, ex]
      first | refine exX_mk (fun Q hQ => without_q _ _ _ Q hQ) (.refl _) ?_ | refine exX_mk (fun Q hQ => without_q _ _ _ Q hQ) (ex _) ?_ | refine exC_mk (fun Q hQ => without_q _ _ _ Q hQ) ?_
      simp [new79]
      exact hfin
  · refine AWR_U [2, 3, 5] [true, true, false, false] rfl (by kernel_rfl) ?_
    simp [addE, permL, okFn_low, aF, aT, hI, hz, ex]
    first | refine exX_mk (fun Q hQ => open_q hs hn S Z _ Q hQ) (.refl _) ?_ | refine exX_mk (fun Q hQ => open_q hs hn S Z _ Q hQ) (ex _) ?_ | refine exC_mk (fun Q hQ => open_q hs hn S Z _ Q hQ) ?_
    simp [okFn_low]
    first | refine exX_mk (fun Q hQ => without_q _ _ _ Q hQ) (.refl _) ?_ | refine exX_mk (fun Q hQ => without_q _ _ _ Q hQ) (ex _) ?_ | refine exC_mk (fun Q hQ => without_q _ _ _ Q hQ) ?_
    simp [new79]
    exact hfin
end Go.Proofs.Ytfbpgnjeafadmaa.Fl
