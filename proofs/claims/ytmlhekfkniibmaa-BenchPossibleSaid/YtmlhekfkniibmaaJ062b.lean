/- Joined texts: WPoss. -/
import Derived.Test.YtmlhekfkniibmaaJ062a
/- Which orders are possible: the walk of the law. -/
namespace Go.Proofs.Ytmlhekfkniibmaa
open Go Go.Proofs.Ytmlhekfkniibmaa.AX
set_option linter.unusedVariables false
/-- The first m entries of the law's map. -/
def tabK (n m : Nat) : List (List Int × AV) := (tabN n m).map fun p => (p.1, AV.int .i64 (p.2 : Nat))
theorem tabN_succ (n m : Nat) : tabN n (m + 1) = tabN n m ++ [(pad (orderS n (m + 1)), m + 1)] := by
  unfold tabN; rw [List.range_succ, List.map_append]; rfl
theorem put_end {k : List Int} {v : AV} : ∀ {l : List (List Int × AV)}, l.lookup k = none → putLA k v l = l ++ [(k, v)]
  | [], _ => rfl
  | p :: l, h => by
    simp only [List.lookup] at h
    cases e : k == p.1 with
    | true => rw [e] at h; cases h
    | false =>
      rw [e] at h
      simp only [putLA, e]
      rw [put_end h]; rfl
theorem lcm6 : ∀ n, n ≤ 6 → lcmS n ≤ 60 := by decide
theorem orders_small (n : Nat) (h1 : 1 ≤ n) (h6 : n ≤ 6) : ordersP n = (lcmS n : Nat) ∧ rangeE n = 0 := by
  have : ∀ n : Nat, n ≤ 6 → 1 ≤ n → ordersP n = (lcmS n : Nat) ∧ rangeE n = 0 := by decide
  exact this n h6 h1
set_option maxRecDepth 100000 in
set_option maxHeartbeats 2000000 in
theorem benchPossible_ac (c : Int) (hc : 0 ≤ c ∧ c < 256) (H : AH) : AC Try.prog 7 [.int .u8 c] H fun u _ => u = .bool true := by
  refine L_body 97 Try.func7 rfl rfl ?_
  refine L_reg [0] (fun K hK => ?_)
  simp
  apply hK; clear hK K
  obtain ⟨n, hn, h1, h6⟩ : ∃ n : Nat, 1 + c.tmod 6 = (n : Int) ∧ 1 ≤ n ∧ n ≤ 6 := ⟨1 + (c.toNat % 6), by
    rw [Int.tmod_eq_emod_of_nonneg hc.1]; omega, by omega, by omega⟩
  have e6 : IntKind.i64.wrap (c.tmod 6) = c.tmod 6 := wrap_i64 (by rw [Int.tmod_eq_emod_of_nonneg hc.1]; omega)
  obtain ⟨I3, hI3, hz3⟩ := zeroT_some zt3
  obtain ⟨I4, hI4, hz4⟩ := zeroT_some zt4
  obtain ⟨I43, hI43, hz43⟩ := zeroT_some zt43
  have s0 := store_last (P := Try.prog) (H := H) (u := 3) (c := [.int .i64 0]) (p := 0) (v := 0) (s := 0) sc3 (x := .int .i64 n) (y := .int .i64 0) rfl rfl
  simp at s0
  refine L_reg [3] (fun K hK => ?_)
  simp [wrap_i64 (a := c) (by omega), hn, wrap_i64 (a := (n : Int)) (by omega), hI3, hz3, s0]
  apply hK; clear hK K
  have rn : (H ++ [AObj.row [AV.int .i64 n] 0 0 false])[H.length]? = some (.row [.int .i64 n] 0 0 false) := by simp
  generalize H ++ [AObj.row [AV.int .i64 n] 0 0 false] = H1 at rn ⊢
  generalize H.length = pn at rn ⊢
  have lnn : ∀ {H' : AH}, H'[pn]? = some (.row [.int .i64 n] 0 0 false) → ld H' pn 0 0 = some (.int .i64 n) := fun h => by rw [ld_row h]; rfl
  have hpn : pn < H1.length := (List.getElem?_eq_some_iff.1 rn).1
  obtain ⟨o1, o2⟩ := orders_small n h1 h6
  have hlc := lcm6 n h6
  refine L_reg [3, 4, 5] (fun K hK => ?_)
  simp [okFn_low, lnn rn]
  refine Orders_ac n _ _ ?_
  simp [o1, o2]
  apply hK; clear hK K
  refine L_reg [3, 4, 5, 6] (fun K hK => ?_)
  simp [okFn_low, lnn rn]
  refine tried_ac n h1 (by omega) _ _ ?_
  simp
  apply hK; clear hK K
  refine L_reg [3, 6, 35] (fun K hK => ?_)
  simp [pickV]
  apply hK; clear hK K
  refine L_false rfl ?_
  have hmk := fun H => make_A (H := H) mt40
  obtain ⟨I40, hI40, hz40⟩ := zeroT_some zt40
  have s1 := store_last (P := Try.prog) (H := H1 ++ [AObj.map (mapLA [])]) (u := 40) (c := I40.zero) (p := 0) (v := 0) (s := 0) sc40 (x := .map H1.length) (y := .nilmap) rfl (by rw [hz40]; rfl)
  rw [hz40] at s1
  simp at s1
  refine L_reg [3, 6, 7] (fun K hK => ?_)
  simp [hmk, hI40, hz40, s1]
  apply hK; clear hK K
  have hE2 : Ext H1 (H1 ++ [AObj.map (mapLA []), AObj.row [.map H1.length] 0 0 false]) := .push _ _
  have rm2 : MapA (H1 ++ [AObj.map (mapLA []), AObj.row [.map H1.length] 0 0 false]) H1.length (tabK n 0) := by unfold MapA tabK tabN; simp
  have rc2 : (H1 ++ [AObj.map (mapLA []), AObj.row [.map H1.length] 0 0 false])[H1.length + 1]? = some (.row [.map H1.length] 0 0 false) := by simp
  have rn2 := hE2.row rn
  generalize H1 ++ [AObj.map (mapLA []), AObj.row [.map H1.length] 0 0 false] = H2 at *
  generalize hrm : H1.length = rm at *
  refine L_reg [3, 6, 7, 8] (fun K hK => ?_)
  simp
  apply hK; clear hK K
  refine L_block (L_loopV [8] (fun q vs H' => ∃ b : Nat, q = lcmS n - b ∧ b ≤ lcmS n ∧ vs = [.int .i64 (b + 1 : Nat)] ∧ H'[pn]? = some (.row [.int .i64 n] 0 0 false) ∧ H'[rm + 1]? = some (.row [.map rm] 0 0 false) ∧ MapA H' rm (tabK n b)) _ [.int .i64 1] rfl ⟨0, rfl, by omega, rfl, rn2, rc2, rm2⟩ ?_)
  rintro _ _ H3 ⟨b, rfl, hb, rfl, rn3, rc3, rm3⟩
  refine L_reg [3, 6, 7, 8, 39] (fun K hK => ?_)
  simp
  apply hK; clear hK K
  refine L_dec (b < lcmS n) (by simp; omega) (fun hlt => ?_) (fun hge => L_exit ?_)
  · refine L_block ?_
    have hnew := new6
    simp only [List.all_eq_true, List.mem_range, Bool.and_eq_true, decide_eq_true_eq] at hnew
    obtain ⟨w1, w2⟩ := hnew (n - 1) (by omega) b (by rw [show n - 1 + 1 = n by omega]; exact hlt)
    rw [show n - 1 + 1 = n by omega] at w1 w2
    refine L_reg [3, 6, 7, 8, 9] (fun K hK => ?_)
    simp [okFn_low, lnn rn3]
    refine counts_ac n (b + 1) h1 (by omega) (by omega) (by omega) _ _ (fun v w H4 hO4 hO4' hE4 => ?_)
    simp
    apply hK; clear hK K
    have rn4 := hE4.row rn3
    have hx1 : IntKind.i64.wrap ((b : Int) + 1 + (lcmS n : Nat)) = ((b + 1 + lcmS n : Nat) : Int) := by rw [wrap_i64 (by omega)]; omega
    refine L_reg [3, 6, 7, 8, 9, 11, 12] (fun K hK => ?_)
    simp [okFn_low, lnn rn4]
    refine OrderN_ac n (b + 1) h1 (by omega) (by omega) (by omega) _ _ (fun v1 H5 hO5 hE5 => ?_)
    simp
    apply hK; clear hK K
    have rn5 := hE5.row rn4
    refine L_reg [3, 6, 7, 8, 9, 11, 12, 13, 14] (fun K hK => ?_)
    simp [okFn_low, lnn rn5, hx1]
    refine OrderN_ac n (b + 1 + lcmS n) h1 (by omega) (by omega) (by omega) _ _ (fun v2 H6 hO6 hE6 => ?_)
    simp
    apply hK; clear hK K
    rw [w2] at hO6
    have hv6 := (hO4.own.ls.ext hE5).ext hE6
    have hv16 := hO5.own.ls.ext hE6
    have hol := orderS_len n (b + 1)
    refine L_reg [3, 6, 7, 8, 9, 79] (fun K hK => ?_)
    simp [okFn_low, pickV]
    refine same_ac v1 v _ _ _ _ (by omega) hv16 hv6 ?_
    simp [okFn_low, pickV]
    refine same_ac v2 v _ _ _ _ (by omega) hO6.own.ls hv6 ?_
    simp [pickV]
    apply hK; clear hK K
    refine L_false rfl ?_
    have hE36 := (hE4.trans hE5).trans hE6
    refine L_reg [3, 6, 7, 8, 9, 15] (fun K hK => ?_)
    simp [hI43, hz43]
    apply hK; clear hK K
    have hE0 : Ext H6 (H6 ++ [AObj.row [AV.int IntKind.i64 0, AV.int IntKind.i64 0, AV.int IntKind.i64 0, AV.int IntKind.i64 0, AV.int IntKind.i64 0, AV.int IntKind.i64 0] 0 0 false]) := .push _ _
    have hw0 : (H6 ++ [AObj.row [AV.int IntKind.i64 0, AV.int IntKind.i64 0, AV.int IntKind.i64 0, AV.int IntKind.i64 0, AV.int IntKind.i64 0, AV.int IntKind.i64 0] 0 0 false])[H6.length]? = some (.row (List.replicate 6 (.int .i64 0)) 0 0 false) := by simp [List.replicate]
    generalize H6 ++ [AObj.row [AV.int IntKind.i64 0, AV.int IntKind.i64 0, AV.int IntKind.i64 0, AV.int IntKind.i64 0, AV.int IntKind.i64 0, AV.int IntKind.i64 0] 0 0 false] = H7 at hE0 hw0 ⊢
    have hsl := slice_all ar43 (by decide) (by decide) hw0 (by simp) (by simp)
    have hcp := copy_pad (by omega) (by omega) hw0 (hv6.ext hE0)
    refine L_reg [3, 6, 7, 8, 15] (fun K hK => ?_)
    simp [noSlice ar43, hsl, hcp]
    apply hK; clear hK K
    have hE1 : Ext H6 (H7.set H6.length (.row ((pad (orderS n (b + 1))).map (.int .i64)) 0 0 false)) := hE0.set _ (Nat.le_refl _)
    have hw1 := get_set (o' := .row ((pad (orderS n (b + 1))).map (.int .i64)) 0 0 false) hw0
    generalize H7.set H6.length (.row ((pad (orderS n (b + 1))).map (.int .i64)) 0 0 false) = H8 at hE1 hw1 ⊢
    have hE8 := hE36.trans hE1
    have rn8 := hE8.row rn3
    have rc8 := hE8.row rc3
    have rm8 : MapA H8 rm (tabK n b) := hE8.row rm3
    have hkey : okKey 6 (pad (orderS n (b + 1))) := okKey_pad (by omega) fun x hx => by
      have := mem_allS.1 ((orderS_perm n (b + 1)).mem_iff.1 hx)
      omega
    have hlk := look_A (ok := false) mt40 at40 rm8 hkey (tabA_ok h6)
    have hnone : (tabK n b).lookup (pad (orderS n (b + 1))) = none := by
      unfold tabK; rw [lookup_mapA]
      cases e : (tabN n b).lookup (pad (orderS n (b + 1))) with
      | none => rfl
      | some k => rw [e] at w1; cases w1
    rw [hnone] at hlk
    have hlk2 : aLook Try.prog H8 40 (.map rm) (.agg ((pad (orderS n (b + 1))).map (.int .i64))) false = some (.int .i64 0) := hlk
    have lpm : ld H8 (rm + 1) 0 0 = some (.map rm) := by rw [ld_row rc8]; rfl
    have lkey := ldn_row6 hw1 (pad_len (o := orderS n (b + 1)) (by omega))
    have hput := put_A (v := .int .i64 (b + 1 : Nat)) mt40 at40 rm8 hkey (tabA_ok h6)
    rw [put_end hnone, show ((b + 1 : Nat) : Int) = (b : Int) + 1 by omega] at hput
    have hrn : pn ≠ rm := by omega
    refine L_reg [3, 6, 7, 8, 15, 86] (fun K hK => ?_)
    simp [lpm, lkey, hlk2]
    apply hK; clear hK K
    refine L_false rfl ?_
    refine L_reg [3, 6, 7, 8] (fun K hK => ?_)
    simp [lpm, lkey, hput]
    apply hK; clear hK K
    refine L_reg [3, 6, 7, 8] (fun K hK => ?_)
    simp [wrap_i64 (a := (b : Int) + 1 + 1) (by omega)]
    apply hK; clear hK K
    refine ⟨lcmS n - (b + 1), [.int .i64 ((b + 1 + 1 : Nat) : Int)], by omega, by simp, b + 1, rfl, by omega, rfl, ?_, ?_, ?_⟩
    · rw [List.getElem?_set_ne (Ne.symm hrn), rn8]
    · rw [List.getElem?_set_ne (by omega), rc8]
    · unfold MapA
      rw [get_set rm8]
      unfold tabK
      rw [tabN_succ, List.map_append]; rfl
  · obtain rfl : b = lcmS n := by omega
    have s4 := store_last (P := Try.prog) (H := H3) (u := 4) (c := [.bool false]) (p := 0) (v := 0) (s := 0) sc4 (x := .bool true) (y := .bool false) rfl rfl
    simp at s4
    obtain ⟨I44, hI44, hz44⟩ := zeroT_some zt44
    refine L_reg [3, 7, 16] (fun K hK => ?_)
    simp [hI4, hz4, s4]
    apply hK; clear hK K
    refine L_reg [3, 7, 16, 17] (fun K hK => ?_)
    simp [hI44, hz44]
    apply hK; clear hK K
    have s5 := store_last (P := Try.prog) (H := H3 ++ [AObj.row [.bool true] 0 0 false]) (u := 44) (c := [.nilfunc]) (p := 0) (v := 0) (s := 0) sc44 (x := .func (.func 39) [] [.ptr pn 0 0, .ptr (H3.length + 1) 0 0, .ptr H3.length 0 0, .ptr (rm + 1) 0 0]) (y := .nilfunc) rfl rfl
    simp at s5
    refine L_reg [16, 17] (fun K hK => ?_)
    simp [s5]
    apply hK; clear hK K
    have hE9 : Ext H3 (H3 ++ [AObj.row [.bool true] 0 0 false, AObj.row [.func (.func 39) [] [.ptr pn 0 0, .ptr (H3.length + 1) 0 0, .ptr H3.length 0 0, .ptr (rm + 1) 0 0]] 0 0 false]) := .push _ _
    have hPC : PC n pn (H3.length + 1) H3.length (rm + 1) rm (H3 ++ [AObj.row [.bool true] 0 0 false, AObj.row [.func (.func 39) [] [.ptr pn 0 0, .ptr (H3.length + 1) 0 0, .ptr H3.length 0 0, .ptr (rm + 1) 0 0]] 0 0 false]) := ⟨hE9.row rn3, by simp, by simp, hE9.row rc3, hE9.row rm3⟩
    generalize H3 ++ [AObj.row [.bool true] 0 0 false, AObj.row [.func (.func 39) [] [.ptr pn 0 0, .ptr (H3.length + 1) 0 0, .ptr H3.length 0 0, .ptr (rm + 1) 0 0]] 0 0 false] = H9 at *
    have hall := all6
    simp only [List.all_eq_true, List.mem_range] at hall
    have hall := hall (n - 1) (by omega)
    rw [show n - 1 + 1 = n by omega] at hall
    have lf : ld H9 (H3.length + 1) 0 0 = some (.func (.func 39) [] [.ptr pn 0 0, .ptr (H3.length + 1) 0 0, .ptr H3.length 0 0, .ptr (rm + 1) 0 0]) := by rw [ld_row hPC.cf]; rfl
    have hok39 : okFn Try.prog 39 = true := by kernel_rfl
    refine L_reg [16] (fun K hK => ?_)
    simp [lf, hok39]
    refine put_ac n pn (H3.length + 1) H3.length (rm + 1) rm h1 h6 n [] _ H9 _ (by simp) hall (.nil _) hPC (fun H10 hE10 => ?_)
    simp
    apply hK; clear hK K
    have lw : ld H10 H3.length 0 0 = some (.bool true) := by rw [ld_row (hE10.row hPC.cw)]; rfl
    refine L_reg [2] (fun K hK => ?_)
    simp [okFn_low, lw]
    refine works_ac _ _ ?_
    simp [pickV]
    apply hK; clear hK K
    exact L_ret ⟨.inr rfl, _, rfl, rfl⟩
end Go.Proofs.Ytmlhekfkniibmaa
