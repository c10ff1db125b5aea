/- Heaps, hands and plans checked. -/
import Derived.Test.YtjldfcfomiopfaaDoorFacts
namespace Go.Proofs.YtjldfcfomiopfaaDoor
open Go Go.Proofs.YtjldfcfomiopfaaDoor.AX

def isHourS (n : Int) : Bool := decide (0 ≤ n) && decide (n ≤ 23)
theorem isHour_ac (n : Int) (H : AH) (Q : AV → AH → Prop) (h : Q (.bool (isHourS n)) H) : AC Tryd.prog 87 [.int .i64 n] H Q := by
  refine L_body 9 Tryd.func87 rfl rfl ?_
  refine L_reg [0] (fun K hK => ?_)
  simp
  apply hK; clear hK K
  by_cases h0 : 0 ≤ n
  · refine L_reg [2] (fun K hK => ?_)
    simp [pickV, h0]
    apply hK; clear hK K
    exact L_ret ⟨.inr rfl, _, rfl, by simpa [isHourS, h0] using h⟩
  · refine L_reg [2] (fun K hK => ?_)
    simp [pickV, h0]
    apply hK; clear hK K
    exact L_ret ⟨.inr rfl, _, rfl, by simpa [isHourS, h0] using h⟩

def spanE (a b : Int) : Int := if isHourS a && isHourS b then (if b < a then 7 else 0) else 1
theorem checkSpan_ac (a b : Int) (H : AH) (Q : AV → AH → Prop) (h : Q (.int .i64 (spanE a b)) H) : AC Tryd.prog 66 [.int .i64 a, .int .i64 b] H Q := by
  refine L_body 16 Tryd.func66 rfl rfl ?_
  refine L_reg [0, 1] (fun K hK => ?_)
  simp
  apply hK; clear hK K
  refine L_reg [0, 1, 12] (fun K hK => ?_)
  simp [okFn_low]
  refine isHour_ac a _ _ ?_
  cases ha : isHourS a with
  | false =>
    simp [pickV]
    apply hK; clear hK K
    refine L_true (by simp) ?_
    refine L_reg [4] (fun K hK => ?_)
    simp
    apply hK; clear hK K
    exact L_ret ⟨.inr rfl, _, rfl, by simpa [spanE, ha] using h⟩
  | true =>
    simp [okFn_low]
    refine isHour_ac b _ _ ?_
    cases hb : isHourS b with
    | false =>
      simp [pickV]
      apply hK; clear hK K
      refine L_true (by simp) ?_
      refine L_reg [4] (fun K hK => ?_)
      simp
      apply hK; clear hK K
      exact L_ret ⟨.inr rfl, _, rfl, by simpa [spanE, ha, hb] using h⟩
    | true =>
      simp [pickV]
      apply hK; clear hK K
      refine L_false (by simp) ?_
      refine L_reg [0, 1, 15] (fun K hK => ?_)
      simp
      apply hK; clear hK K
      refine L_dec (b < a) (by simp) (fun hlt => ?_) (fun hge => ?_)
      · refine L_reg [4] (fun K hK => ?_)
        simp
        apply hK; clear hK K
        exact L_ret ⟨.inr rfl, _, rfl, by simpa [spanE, ha, hb, hlt] using h⟩
      · refine L_reg [4] (fun K hK => ?_)
        simp
        apply hK; clear hK K
        exact L_ret ⟨.inr rfl, _, rfl, by simpa [spanE, ha, hb, hge] using h⟩

/-- The first error of heaps. -/
def firstE : List (Int × Int) → Int
  | [] => 0
  | h :: l => if spanE h.1 h.2 = 0 then firstE l else spanE h.1 h.2
def checkE (l : List (Int × Int)) : Int := if 10 < l.length then 3 else firstE l
theorem firstE_drop {l : List (Int × Int)} {i : Nat} (hi : i < l.length) : firstE (l.drop i) = if spanE l[i].1 l[i].2 = 0 then firstE (l.drop (i + 1)) else spanE l[i].1 l[i].2 := by
  rw [List.drop_eq_getElem_cons hi]; rfl
theorem spanE_cases (a b : Int) : spanE a b = 0 ∨ spanE a b = 1 ∨ spanE a b = 7 := by
  unfold spanE
  split
  · split <;> simp
  · simp

set_option maxRecDepth 100000 in
theorem check_ac (v : AV) (l : List (Int × Int)) (H : AH) (Q : AV → AH → Prop) (hv : Hs H v l) (h : ∀ H', Ext H H' → Q (.int .i64 (checkE l)) H') : AC Tryd.prog 23 [v] H Q := by
  obtain ⟨r, off, ver, sz, full, rfl, hld⟩ := hv.read
  refine L_body 24 Tryd.func23 rfl rfl ?_
  refine L_reg [0] (fun K hK => ?_)
  simp
  apply hK; clear hK K
  refine L_reg [0, 8] (fun K hK => ?_)
  simp
  apply hK; clear hK K
  refine L_dec ((10 : Int) < l.length) (by simp) (fun hlt => ?_) (fun hge => ?_)
  · refine L_reg [2] (fun K hK => ?_)
    simp
    apply hK; clear hK K
    exact L_ret ⟨.inr rfl, _, rfl, by simpa [checkE, show 10 < l.length by omega] using h _ (.refl _)⟩
  · have hc : checkE l = firstE l := by rw [checkE, if_neg (by omega)]
    rw [hc] at h
    refine L_reg [9, 10, 11] (fun K hK => ?_)
    simp
    apply hK; clear hK K
    refine L_block (L_loopV [11] (fun k vs H' => ∃ i : Nat, k = l.length - i ∧ i ≤ l.length ∧ firstE l = firstE (l.drop i) ∧ vs = [.int .i64 i] ∧ Ext H H') _ [.int .i64 (0 : Nat)] rfl ⟨0, rfl, by omega, rfl, rfl, .refl _⟩ ?_)
    rintro k _ H2 ⟨i, rfl, hi, hfe, rfl, hE⟩
    refine L_reg [9, 10, 11, 12] (fun K hK => ?_)
    simp
    apply hK; clear hK K
    refine L_dec (i < l.length) (by simp) (fun hlt => ?_) (fun hge => L_exit ?_)
    · obtain ⟨r', rfl, rfl, hrd⟩ := hld i hlt
      have hrd := ldn_ext hE hrd
      rw [firstE_drop hlt] at hfe
      generalize l[i] = x at hrd hfe
      obtain ⟨c, d⟩ := x
      refine L_block ?_
      refine L_reg [4, 9, 10, 11] (fun K hK => ?_)
      simp [hlt, hrd, alloc_z zt61, put61]
      apply hK; clear hK K
      have hbx : (H2 ++ [AObj.row (two c d) 0 0 false])[H2.length]? = some (.row (two c d) 0 0 false) := by simp
      have hE1 : Ext H2 (H2 ++ [AObj.row (two c d) 0 0 false]) := .push _ _
      generalize H2 ++ [AObj.row (two c d) 0 0 false] = H3 at hbx hE1 ⊢
      generalize H2.length = u at hbx ⊢
      have e3 := ld_two0 hbx
      have e4 := ld_two1 hbx
      have hE3 := hE.trans hE1
      refine L_reg [5, 9, 10, 11] (fun K hK => ?_)
      simp [e3, e4, okFn_low]
      refine checkSpan_ac c d _ _ ?_
      simp
      apply hK; clear hK K
      refine L_reg [5, 9, 10, 11, 21] (fun K hK => ?_)
      simp
      apply hK; clear hK K
      refine L_split rfl (fun ht => ?_) (fun hf => ?_)
      · have hne : spanE c d ≠ 0 := by simpa using ht
        simp only [hne, if_false] at hfe
        refine L_reg [2] (fun K hK => ?_)
        simp
        apply hK; clear hK K
        exact L_ret ⟨.inr rfl, _, rfl, by simpa [hfe] using h _ hE3⟩
      · have he : spanE c d = 0 := by simpa using hf
        simp only [he, if_true] at hfe
        refine L_reg [9, 10, 11] (fun K hK => ?_)
        simp [wrap_i64 (a := (i : Int) + 1) (by omega)]
        apply hK; clear hK K
        exact ⟨l.length - (i + 1), [.int .i64 (i + 1 : Nat)], by omega, by simp, i + 1, rfl, by omega, hfe, rfl, hE3⟩
    · have : i = l.length := by omega
      subst this
      rw [List.drop_length] at hfe
      refine L_reg [2] (fun K hK => ?_)
      simp
      apply hK; clear hK K
      exact L_ret ⟨.inr rfl, _, rfl, by simpa [hfe, firstE] using h _ hE⟩
theorem check_q (v : AV) (l : List (Int × Int)) (H : AH) (hv : Hs H v l) (Q : AV → AH → Prop) (h : Q (.int .i64 (checkE l)) H) : AC Tryd.prog 23 [v] H Q :=
  AC.quiet (belB_int _ _ _ _) (fun Q h => check_ac v l H Q hv h) Q h

def handsE (l : List (Int × Int)) (k : Int) : Int := if checkE l = 0 then (if k < 1 ∨ 10 < k then 1 else 0) else checkE l
theorem checkHands_q (v : AV) (l : List (Int × Int)) (k : Int) (H : AH) (hv : Hs H v l) (Q : AV → AH → Prop) (h : Q (.int .i64 (handsE l k)) H) : AC Tryd.prog 57 [v, .int .i64 k] H Q := by
  refine L_body 17 Tryd.func57 rfl rfl ?_
  refine L_reg [0, 1] (fun K hK => ?_)
  simp
  apply hK; clear hK K
  refine L_reg [1, 5] (fun K hK => ?_)
  simp [okFn_low]
  refine check_q v l _ hv _ ?_
  simp
  apply hK; clear hK K
  refine L_reg [1, 5, 9] (fun K hK => ?_)
  simp
  apply hK; clear hK K
  refine L_split rfl (fun ht => ?_) (fun hf => ?_)
  · have hne : checkE l ≠ 0 := by simpa using ht
    refine L_reg [4] (fun K hK => ?_)
    simp
    apply hK; clear hK K
    exact L_ret ⟨.inr rfl, _, rfl, by simpa [handsE, hne] using h⟩
  · have he : checkE l = 0 := by simpa using hf
    by_cases h1 : k < 1
    · refine L_reg [16] (fun K hK => ?_)
      simp [pickV, h1]
      apply hK; clear hK K
      refine L_true (by simp) ?_
      refine L_reg [4] (fun K hK => ?_)
      simp
      apply hK; clear hK K
      exact L_ret ⟨.inr rfl, _, rfl, by simpa [handsE, he, h1] using h⟩
    · refine L_reg [16] (fun K hK => ?_)
      simp [pickV, h1]
      apply hK; clear hK K
      refine L_dec (10 < k) (by simp) (fun h2 => ?_) (fun h2 => ?_)
      · refine L_reg [4] (fun K hK => ?_)
        simp
        apply hK; clear hK K
        exact L_ret ⟨.inr rfl, _, rfl, by simpa [handsE, he, h2] using h⟩
      · refine L_reg [4] (fun K hK => ?_)
        simp
        apply hK; clear hK K
        exact L_ret ⟨.inr rfl, _, rfl, by simpa [handsE, he, h1, h2] using h⟩

def turnS (a b x : Int) : Bool := decide (a ≤ x) && decide (x ≤ b)
theorem turnable_ac (a b x : Int) (H : AH) (Q : AV → AH → Prop) (h : ∀ H', Ext H H' → Q (.bool (turnS a b x)) H') : AC Tryd.prog 64 [.agg [.int .i64 a, .int .i64 b], .int .i64 x] H Q := by
  refine L_body 15 Tryd.func64 rfl rfl ?_
  refine L_reg [1, 2] (fun K hK => ?_)
  simp [AV.isU, acells]
  apply hK; clear hK K
  have hE : Ext H (H ++ [AObj.row (two a b) 0 0 false]) := .push _ _
  have h1 : (H ++ [AObj.row (two a b) 0 0 false])[H.length]? = some (.row (two a b) 0 0 false) := by simp
  simp only [two] at hE h1
  generalize H ++ [AObj.row [AV.int IntKind.i64 a, AV.int IntKind.i64 b] 0 0 false] = H1 at hE h1 ⊢
  generalize H.length = w at h1 ⊢
  have e0 := ld_two0 h1
  have e1 := ld_two1 h1
  by_cases hx : a ≤ x
  · refine L_reg [4] (fun K hK => ?_)
    simp [e0, e1, pickV, hx]
    apply hK; clear hK K
    exact L_ret ⟨.inr rfl, _, rfl, by simpa [turnS, hx] using h _ hE⟩
  · refine L_reg [4] (fun K hK => ?_)
    simp [e0, pickV, hx]
    apply hK; clear hK K
    exact L_ret ⟨.inr rfl, _, rfl, by simpa [turnS, hx] using h _ hE⟩
theorem turnable_q (a b x : Int) (H : AH) (Q : AV → AH → Prop) (h : Q (.bool (turnS a b x)) H) : AC Tryd.prog 64 [.agg [.int .i64 a, .int .i64 b], .int .i64 x] H Q :=
  AC.quiet (belB_bool _ _ _) (fun Q h => turnable_ac a b x H Q h) Q h
end Go.Proofs.YtjldfcfomiopfaaDoor
