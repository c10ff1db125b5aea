/- Plant and Keep. -/
import Derived.Test.YtfbpgnjeafadmaaPlb
namespace Go.Proofs.Ytfbpgnjeafadmaa.Fl
open Go Go.Proofs.Ytfbpgnjeafadmaa Go.Proofs.Ytfbpgnjeafadmaa.AX
set_option maxRecDepth 100000

theorem least_q {r c : Nat} (hs : Sd r c) (H : AH) (Q : AV → AH → Prop) (h : Q (.int .i64 ((r + c + 1) / 2 : Nat)) H) : AC Try.prog 72 [.agg [.int .i64 r, .int .i64 c]] H Q := by
  refine AC.quiet (belB_int _ _ _ _) (fun Q h => ?_) Q h
  have h1 := hs.r5
  have h2 := hs.c5
  have e1 : ((r : Int) + c) = ((r + c : Nat) : Int) := by omega
  have e2 : (((r + c : Nat) : Int) + 1) = ((r + c + 1 : Nat) : Int) := by omega
  have e3 := quo_nat (r + c + 1) 2
  obtain ⟨a, ha⟩ : ∃ a, r + c = a := ⟨_, rfl⟩
  obtain ⟨b, hb⟩ : ∃ b, r + c + 1 = b := ⟨_, rfl⟩
  obtain ⟨d, hd⟩ : ∃ d, b / 2 = d := ⟨_, rfl⟩
  rw [hb, hd] at h
  rw [ha] at e1 e2
  rw [← ha, hb] at e2
  rw [hb, hd] at e3
  refine L_body 10 Try.func72 rfl rfl ?_
  refine L_reg [1] (fun K hK => ?_)
  simp [AV.isU, acells]
  apply hK; clear hK K
  have h1 : (H ++ [AObj.row [.int .i64 r, .int .i64 c] 0 0 false])[H.length]? = some (.row [.int .i64 r, .int .i64 c] 0 0 false) := by simp
  have hE : Ext H (H ++ [AObj.row [.int .i64 r, .int .i64 c] 0 0 false]) := .push _ _
  generalize H ++ [AObj.row [.int .i64 r, .int .i64 c] 0 0 false] = H1 at h1 hE ⊢
  have a0 := ld_f0 h1
  have a1 := ld_f1 h1
  have e4 : (a : Int) + 1 = b := by omega
  have e5 : (b : Int).tdiv 2 = d := e3
  refine L_reg [2] (fun K hK => ?_)
  simp [a0, a1, e1, e4, e5, wrap_i64 (a := (a : Int)) (by omega), wrap_i64 (a := (b : Int)) (by omega), wrap_i64 (a := (d : Int)) (by omega)]
  apply hK; clear hK K
  exact L_ret ⟨.inr rfl, _, rfl, h _ hE⟩
/-- Whether beetles reach all from some. -/
def fitP (r c n : Nat) (T : Nat → Bool) : Bool := (List.range 25).all fun i => sp r c 2 (lt' n) T i == lt' n i
theorem fitP_q {r c n : Nat} (hs : Sd r c) (hn : r * c = n) (pa pb sa sb : Nat) (H : AH) (ha : H[pa]? = some (.row [.int .i64 r, .int .i64 c] 0 sa false)) (hb : H[pb]? = some (.row (bA (lt' n)) 0 sb false)) (T : Nat → Bool) (hT : ∀ b, T b = true → lt' n b = true) (Q : AV → AH → Prop) (h : Q (.bool (fitP r c n T)) H) : AC Try.prog 74 (.agg (bA T) :: [.ptr pa 0 0, .ptr pb 0 0]) H Q := by
  refine AC.quiet (belB_bool _ _ _) (fun Q h => ?_) Q h
  refine L_body 11 Try.func74 rfl rfl ?_
  refine L_reg [1, 2, 3] (fun K hK => ?_)
  simp [AV.isU, acells]
  apply hK; clear hK K
  have h3 : (H ++ [AObj.row (bA T) 0 0 false])[H.length]? = some (.row (bA T) 0 0 false) := by simp
  have hE : Ext H (H ++ [AObj.row (bA T) 0 0 false]) := .push _ _
  replace ha := hE.row ha
  replace hb := hE.row hb
  generalize H ++ [AObj.row (bA T) 0 0 false] = H1 at ha hb h3 hE ⊢
  have a1 := ldn_f ha
  have a2 := ldn_b hb
  have a3 := ldn_b h3
  refine L_regZ mixed [] [0, 0, 0, 0, 1] [] [4] (by kernel_rfl) (fun K hK => ?_)
  simp [okFn_low, a1, a2, a3]
  refine exX_mk (fun Q hQ => reached_q hs hn 2 T (lt' n) (fun b hb => by simpa [lt'] using hT b hb) _ Q hQ) (.refl _) ?_
  simp [a2, b_eqB]
  apply hK; clear hK K
  refine L_ret ⟨.inr rfl, _, rfl, ?_⟩
  simpa [fitP] using h _ hE
def fitK (r c n : Nat) (S Z : Nat → Bool) (b : Nat) (T : Nat → Bool) : Bool := !sp r c 2 (opn n (or' Z T)) S b
theorem fitK_q {r c n : Nat} (hs : Sd r c) (hn : r * c = n) (S Z : Nat → Bool) (hS : ∀ b, S b = true → b < n) (b : Nat) (hb : b < n) (pa pb sa sb : Nat) (H : AH) (ha : H[pa]? = some (.row (fl r c S Z) 0 sa false)) (hbb : H[pb]? = some (.row [.int .i64 b] 0 sb false)) (T : Nat → Bool) (Q : AV → AH → Prop) (h : Q (.bool (fitK r c n S Z b T)) H) : AC Try.prog 81 (.agg (bA T) :: [.ptr pa 0 0, .ptr pb 0 0]) H Q := by
  refine AC.quiet (belB_bool _ _ _) (fun Q h => ?_) Q h
  refine L_body 9 Try.func81 rfl rfl ?_
  refine L_reg [1, 2, 3] (fun K hK => ?_)
  simp [AV.isU, acells]
  apply hK; clear hK K
  have h3 : (H ++ [AObj.row (bA T) 0 0 false])[H.length]? = some (.row (bA T) 0 0 false) := by simp
  have hE : Ext H (H ++ [AObj.row (bA T) 0 0 false]) := .push _ _
  replace ha := hE.row ha
  replace hbb := hE.row hbb
  generalize H ++ [AObj.row (bA T) 0 0 false] = H1 at ha hbb h3 hE ⊢
  have a1 := ldn_F ha
  have a2 : ld H1 pb 0 0 = some (.int .i64 b) := by rw [ld_row hbb]; rfl
  have a3 := ldn_b h3
  refine L_reg [4] (fun K hK => ?_)
  simp [okFn_low, a1, a2, a3]
  refine keeps_q hs hn S Z T hS b hb _ _ ?_
  simp
  apply hK; clear hK K
  exact L_ret ⟨.inr rfl, _, rfl, h _ hE⟩
/-- The first least lists from which beetles reach all. -/
def plantS (r c n : Nat) : List Int := num (chP (fitP r c n) (lt' n) ((r + c + 1) / 2) 0 none').1
theorem Plant_ac (m k : Int) (H : AH) (Q : AV → AH → Prop) (h0 : ¬ okSides m k → Q (.tuple [.slice none 0 0 0 1 false, .int .i64 1]) H)
    (h : okSides m k → ∀ v' H', OwnN H.length H' v' (plantS m.toNat k.toNat (m.toNat * k.toNat)) → Ext H H' → Q (.tuple [v', .int .i64 0]) H') : AC Try.prog 36 [.int .i64 m, .int .i64 k] H Q := by
  refine L_body 35 Try.func36 rfl rfl ?_
  obtain ⟨I, hI, hz⟩ := zeroT_some zt79'
  obtain ⟨J, hJ, hy⟩ := zeroT_some zt77
  refine L_reg [0, 1] (fun K hK => ?_)
  simp
  apply hK; clear hK K
  refine L_reg [0, 1, 6] (fun K hK => ?_)
  simp [okFn_low]
  refine checkSides_q m k _ _ ?_
  simp
  apply hK; clear hK K
  refine L_reg [0, 1, 6, 16] (fun K hK => ?_)
  simp
  apply hK; clear hK K
  by_cases hsd : okSides m k
  case neg =>
    have hsd2 : ¬ ((1 ≤ m ∧ m ≤ 5) ∧ 1 ≤ k ∧ k ≤ 5) := hsd
    refine L_true (by simp [hsd2]) ?_
    refine L_reg [4, 5] (fun K hK => ?_)
    simp [hsd2]
    apply hK; clear hK K
    exact L_ret ⟨.inr rfl, _, rfl, h0 hsd⟩
  have hsd2 : (1 ≤ m ∧ m ≤ 5) ∧ 1 ≤ k ∧ k ≤ 5 := hsd
  have hs := hsd.sd
  have hq := h hsd
  clear h h0
  obtain ⟨r, hr⟩ : ∃ r : Nat, m = r := ⟨m.toNat, by omega⟩
  obtain ⟨c, hc⟩ : ∃ c : Nat, k = c := ⟨k.toNat, by omega⟩
  refine L_false (by simp [hsd2]) ?_
  subst hr hc
  rw [Int.toNat_natCast, Int.toNat_natCast] at hs hq
  obtain ⟨n, hn⟩ : ∃ n, r * c = n := ⟨_, rfl⟩
  rw [hn] at hq
  have h25 := hs.le
  clear hsd hsd2
  have hst1 : storeV Try.prog 77 (H ++ [AObj.row [.int .i64 0, .int .i64 0] 0 0 false]) (.ptr H.length 0 0) (.agg [.int .i64 r, .int .i64 c]) = some (none, H ++ [AObj.row [.int .i64 r, .int .i64 c] 0 0 false]) := by
    rw [store_agg ag77 (c := [.int .i64 0, .int .i64 0]) (s := 0) (by simp) (by decide) rfl (by simp) rfl (by simp [AV.one])]
    simp
  refine L_reg [7] (fun K hK => ?_)
  simp [hJ, hy, hst1]
  apply hK; clear hK K
  have h7 : (H ++ [AObj.row [.int .i64 r, .int .i64 c] 0 0 false])[H.length]? = some (.row [.int .i64 r, .int .i64 c] 0 0 false) := by simp
  have hl : (H ++ [AObj.row [.int .i64 r, .int .i64 c] 0 0 false]).length = H.length + 1 := by simp
  have hE : Ext H (H ++ [AObj.row [.int .i64 r, .int .i64 c] 0 0 false]) := .push _ _
  clear hst1
  generalize H ++ [AObj.row [.int .i64 r, .int .i64 c] 0 0 false] = H1 at h7 hl hE ⊢
  have a7 := ldn_f h7
  refine L_reg [7, 8] (fun K hK => ?_)
  simp [okFn_low, a7]
  refine all_q hs hn _ _ ?_
  simp [hI, hz, new79]
  apply hK; clear hK K
  have h8 : (H1 ++ [AObj.row (bA (lt' n)) 0 0 false])[H.length + 1]? = some (.row (bA (lt' n)) 0 0 false) := by rw [← hl]; simp
  have hL : (H1 ++ [AObj.row (bA (lt' n)) 0 0 false]).length = H.length + 2 := by simp [hl]
  have hE2 : Ext H1 (H1 ++ [AObj.row (bA (lt' n)) 0 0 false]) := .push _ _
  rw [hl]
  replace h7 := hE2.row h7
  replace hE := hE.trans hE2
  clear a7 hE2 hl
  generalize H1 ++ [AObj.row (bA (lt' n)) 0 0 false] = H2 at h7 h8 hE hL ⊢
  refine L_reg [7, 8, 9] (fun K hK => ?_)
  simp
  apply hK; clear hK K
  have a7 := ldn_f h7
  have a8 := ldn_b h8
  have ex : ∀ l : AH, Ext H2 (H2 ++ l) := fun l => .push _ _
  have hcl : ∀ H', Ext H2 H' → ∀ T, (∀ b, T b = true → lt' n b = true) → ∀ Q : AV → AH → Prop, Q (.bool (fitP r c n T)) H' → AC Try.prog 74 (.agg (bA T) :: [.ptr H.length 0 0, .ptr (H.length + 1) 0 0]) H' Q := fun H' hE' T hT Q hQ => fitP_q hs hn _ _ 0 0 H' (hE'.row h7) (hE'.row h8) T hT Q hQ
  have hlst : (r + c + 1) / 2 ≤ 100 := by have := hs.r5; have := hs.c5; omega
  obtain ⟨d, hd⟩ : ∃ d, (r + c + 1) / 2 = d := ⟨_, rfl⟩
  rw [hd] at hlst
  unfold plantS at hq
  rw [hd] at hq
  obtain ⟨A, hA⟩ : ∃ A, chP (fitP r c n) (lt' n) d 0 none' = A := ⟨_, rfl⟩
  rw [hA] at hq
  have hch : ∀ H' : AH, Ext H2 H' → ∀ Q : AV → AH → Prop, Q (.tuple [.agg (bA A.1), .bool A.2]) H' → AC Try.prog 76 [.agg (bA (lt' n)), .agg (bA none'), .int .i64 0, .int .i64 d, .func (.func 74) [] [.ptr H.length 0 0, .ptr (H.length + 1) 0 0]] H' Q := fun H' hE' Q hQ => by
    have := choose_q 74 [.ptr H.length 0 0, .ptr (H.length + 1) 0 0] (fitP r c n) (lt' n) (okFn_low (by omega) (by omega)) d 0 none' H' Q (by omega) hlst (fun b hb => by simp [none'] at hb) (fun H'' h'' => hcl H'' (hE'.trans h'')) (by rw [hA]; exact hQ)
    exact this
  have hls : ∀ (H' : AH) (Q : AV → AH → Prop), Q (.int .i64 (d : Nat)) H' → AC Try.prog 72 [.agg [.int .i64 r, .int .i64 c]] H' Q := fun H' Q hQ => least_q hs H' Q (by rw [hd]; exact hQ)
  refine L_regR mixed (fun K hK => ?_)
  have hfin : K .normal [(10, .ptr H2.length 0 0)] (H2 ++ [AObj.row (bA A.1) 0 0 false]) := by
    apply hK; clear hK K
    have h10 : (H2 ++ [AObj.row (bA A.1) 0 0 false])[H2.length]? = some (.row (bA A.1) 0 0 false) := by simp
    have a10 := ldn_b h10
    refine L_reg [4, 5] (fun K hK => ?_)
    simp [okFn_low, a10]
    refine list_ac _ _ _ (fun v H3 hN hE2 => ?_)
    have hO := hN.2
    simp
    apply hK; clear hK K
    refine L_ret ⟨.inr rfl, _, rfl, hq v H3 ⟨hN.1, ?_⟩ (hE.trans ((ex _).trans hE2))⟩
    exact ownF_less hO (by have := hE.1; simp; omega)
  refine AWR_pair (x := 3) (y := 9) (ord := [0, 1, 2, 4, 9, 3, 5, 6, 7, 8, 10, 11]) (by kernel_rfl) ?_ ?_
  · refine AWR_pair (x := 5) (y := 9) (ord := [0, 1, 2, 3, 4, 9, 5, 6, 7, 8, 10, 11]) (by kernel_rfl) ?_ ?_
    · refine AWR_U [10] [true, false, false, false] rfl (by kernel_rfl) ?_
      simp [addE, okFn_low, a7, a8, bd79]
      first | refine exX_mk (fun Q hQ => hls _ Q hQ) (.refl _) ?_ | refine exX_mk (fun Q hQ => hls _ Q hQ) (ex _) ?_ | refine exC_mk (fun Q hQ => hls _ Q hQ) ?_
      simp [okFn_low]
      first | refine exX_mk (fun Q hQ => hch _ (by first | exact .refl _ | exact ex _) Q hQ) (.refl _) ?_ | refine exX_mk (fun Q hQ => hch _ (by first | exact .refl _ | exact ex _) Q hQ) (ex _) ?_ | refine exC_mk (fun Q hQ => hch _ (by first | exact .refl _ | exact ex _) Q hQ) ?_
      simp [hI, hz, new79]
      exact hfin
    · refine AWR_U [10] [true, false, false, false, false, false] rfl (by kernel_rfl) ?_
      simp [addE, permL, okFn_low, a7, a8, bd79]
      first | refine exX_mk (fun Q hQ => hls _ Q hQ) (.refl _) ?_ | refine exX_mk (fun Q hQ => hls _ Q hQ) (ex _) ?_ | refine exC_mk (fun Q hQ => hls _ Q hQ) ?_
      simp [okFn_low, hI, hz, ex]
      first | refine exX_mk (fun Q hQ => hch _ (by first | exact .refl _ | exact ex _) Q hQ) (.refl _) ?_ | refine exX_mk (fun Q hQ => hch _ (by first | exact .refl _ | exact ex _) Q hQ) (ex _) ?_ | refine exC_mk (fun Q hQ => hch _ (by first | exact .refl _ | exact ex _) Q hQ) ?_
      simp [new79]
      exact hfin
  · refine AWR_U [10] [true, false, true, false, false, false] rfl (by kernel_rfl) ?_
    simp [addE, permL, okFn_low, a7, a8, hI, hz, bd79, ex]
    first | refine exX_mk (fun Q hQ => hls _ Q hQ) (.refl _) ?_ | refine exX_mk (fun Q hQ => hls _ Q hQ) (ex _) ?_ | refine exC_mk (fun Q hQ => hls _ Q hQ) ?_
    simp [okFn_low]
    first | refine exX_mk (fun Q hQ => hch _ (by first | exact .refl _ | exact ex _) Q hQ) (.refl _) ?_ | refine exX_mk (fun Q hQ => hch _ (by first | exact .refl _ | exact ex _) Q hQ) (ex _) ?_ | refine exC_mk (fun Q hQ => hch _ (by first | exact .refl _ | exact ex _) Q hQ) ?_
    simp [new79]
    exact hfin
end Go.Proofs.Ytfbpgnjeafadmaa.Fl
