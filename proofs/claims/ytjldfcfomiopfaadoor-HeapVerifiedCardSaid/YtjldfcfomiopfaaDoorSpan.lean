/- Spans: how many heaps lie in them, the next one, the first crowded one, and whether there is a plan. -/
import Derived.Test.YtjldfcfomiopfaaDoorFacts
namespace Go.Proofs.YtjldfcfomiopfaaDoor
open Go Go.Proofs.YtjldfcfomiopfaaDoor.AX

def inS (a b : Int) (h : Int × Int) : Bool := decide (a ≤ h.1) && decide (h.2 ≤ b)
def holdsS (a b : Int) (l : List (Int × Int)) : Nat := l.countP (inS a b)
theorem countP_take_succ {α : Type} (p : α → Bool) (l : List α) {i : Nat} (hi : i < l.length) : (l.take (i + 1)).countP p = (l.take i).countP p + if p l[i] = true then 1 else 0 := by
  rw [List.take_succ_eq_append_getElem hi, List.countP_append]
  simp [List.countP_cons]

set_option maxRecDepth 100000 in
theorem holds_ac (a b : Int) (v : AV) (l : List (Int × Int)) (H : AH) (Q : AV → AH → Prop) (hl : l.length ≤ 1000000) (hv : Hs H v l) (h : ∀ H', Ext H H' → Q (.int .i64 (holdsS a b l : Nat)) H') :
    AC Tryd.prog 67 [.agg [.int .i64 a, .int .i64 b], v] H Q := by
  obtain ⟨r, off, ver, sz, full, rfl, hld⟩ := hv.read
  refine L_body 30 Tryd.func67 rfl rfl ?_
  refine L_reg [1, 2] (fun K hK => ?_)
  simp [AV.isU, acells]
  apply hK; clear hK K
  have hbox : (H ++ [AObj.row (two a b) 0 0 false])[H.length]? = some (.row (two a b) 0 0 false) := by simp
  have hE0 : Ext H (H ++ [AObj.row (two a b) 0 0 false]) := .push _ _
  simp only [two] at hbox hE0
  generalize H ++ [AObj.row [AV.int IntKind.i64 a, AV.int IntKind.i64 b] 0 0 false] = H1 at hbox hE0 ⊢
  generalize H.length = w at hbox ⊢
  refine L_reg [1, 2, 5] (fun K hK => ?_)
  simp
  apply hK; clear hK K
  refine L_reg [2, 5, 8, 9, 10] (fun K hK => ?_)
  simp
  apply hK; clear hK K
  refine L_block (L_loopV [5, 10] (fun k vs H' => ∃ i : Nat, k = l.length - i ∧ i ≤ l.length ∧ vs = [.int .i64 ((l.take i).countP (inS a b) : Nat), .int .i64 i] ∧ Ext H1 H') _ [.int .i64 (0 : Nat), .int .i64 (0 : Nat)] rfl ⟨0, rfl, by omega, by simp, .refl _⟩ ?_)
  rintro k _ H2 ⟨i, rfl, hi, rfl, hE⟩
  have hcl : (l.take i).countP (inS a b) ≤ i := Nat.le_trans List.countP_le_length (by simp; omega)
  refine L_reg [2, 5, 8, 9, 10, 11] (fun K hK => ?_)
  simp
  apply hK; clear hK K
  refine L_dec (i < l.length) (by simp) (fun hlt => ?_) (fun hge => L_exit ?_)
  · obtain ⟨r', rfl, rfl, hrd⟩ := hld i hlt
    have hrd := ldn_ext (hE0.trans hE) hrd
    have hsucc := countP_take_succ (inS a b) l hlt
    generalize l[i] = x at hrd hsucc
    obtain ⟨c, d⟩ := x
    refine L_block ?_
    refine L_reg [2, 5, 7, 8, 9, 10] (fun K hK => ?_)
    simp [hlt, hrd, alloc_z zt61, put61]
    apply hK; clear hK K
    have hbx : (H2 ++ [AObj.row (two c d) 0 0 false])[H2.length]? = some (.row (two c d) 0 0 false) := by simp
    have hE1 : Ext H2 (H2 ++ [AObj.row (two c d) 0 0 false]) := .push _ _
    generalize H2 ++ [AObj.row (two c d) 0 0 false] = H3 at hbx hE1 ⊢
    generalize H2.length = u at hbx ⊢
    have hw3 := hE1.row (hE.row hbox)
    have e1 := ld_two0 hw3
    have e2 := ld_two1 hw3
    have e3 := ld_two0 hbx
    have e4 := ld_two1 hbx
    have hE3 := hE.trans hE1
    by_cases hac : a ≤ c
    · refine L_reg [2, 5, 8, 9, 10, 25] (fun K hK => ?_)
      simp [e1, e2, e3, e4, pickV, hac]
      apply hK; clear hK K
      refine L_dec (d ≤ b) (by simp) (fun hdb => ?_) (fun hdb => ?_)
      · have hin : inS a b (c, d) = true := by simp [inS, hac, hdb]
        rw [if_pos hin] at hsucc
        refine L_reg [2, 5, 8, 9, 10] (fun K hK => ?_)
        simp [wrap_i64 (a := ((List.countP (inS a b) (List.take i l) : Nat) : Int) + 1) (by omega)]
        apply hK; clear hK K
        refine L_reg [2, 5, 8, 9, 10] (fun K hK => ?_)
        simp [wrap_i64 (a := (i : Int) + 1) (by omega)]
        apply hK; clear hK K
        exact ⟨l.length - (i + 1), [.int .i64 ((l.take (i + 1)).countP (inS a b) : Nat), .int .i64 (i + 1 : Nat)], by omega, by simp [hsucc], i + 1, rfl, by omega, rfl, hE3⟩
      · have hin : inS a b (c, d) = false := by simp [inS, hdb]
        rw [if_neg (by rw [hin]; decide)] at hsucc
        refine L_reg [2, 5, 8, 9, 10] (fun K hK => ?_)
        simp [wrap_i64 (a := (i : Int) + 1) (by omega)]
        apply hK; clear hK K
        exact ⟨l.length - (i + 1), [.int .i64 ((l.take (i + 1)).countP (inS a b) : Nat), .int .i64 (i + 1 : Nat)], by omega, by simp [hsucc], i + 1, rfl, by omega, rfl, hE3⟩
    · refine L_reg [2, 5, 8, 9, 10, 25] (fun K hK => ?_)
      simp [e1, e3, pickV, hac]
      apply hK; clear hK K
      refine L_false (by simp) ?_
      have hin : inS a b (c, d) = false := by simp [inS, hac]
      rw [if_neg (by rw [hin]; decide)] at hsucc
      refine L_reg [2, 5, 8, 9, 10] (fun K hK => ?_)
      simp [wrap_i64 (a := (i : Int) + 1) (by omega)]
      apply hK; clear hK K
      exact ⟨l.length - (i + 1), [.int .i64 ((l.take (i + 1)).countP (inS a b) : Nat), .int .i64 (i + 1 : Nat)], by omega, by simp [hsucc], i + 1, rfl, by omega, rfl, hE3⟩
  · have : i = l.length := by omega
    subst this
    refine L_reg [4] (fun K hK => ?_)
    simp
    apply hK; clear hK K
    exact L_ret ⟨.inr rfl, _, rfl, by simpa [holdsS] using h _ (hE0.trans hE)⟩

/-- The span that follows. -/
def nextS (a b : Int) : Int × Int := if b < 23 then (a, b + 1) else (a + 1, a + 1)
set_option maxRecDepth 100000 in
theorem next_ac (a b : Int) (H : AH) (Q : AV → AH → Prop) (ha : -1000 ≤ a ∧ a ≤ 1000) (hb : b ≤ 1000 ∧ -1000 ≤ b) (h : ∀ H', Ext H H' → Q (.agg [.int .i64 (nextS a b).1, .int .i64 (nextS a b).2]) H') : AC Tryd.prog 94 [.agg [.int .i64 a, .int .i64 b]] H Q := by
  obtain ⟨I, hI, hz⟩ := zeroT_some zt93
  refine L_body 19 Tryd.func94 rfl rfl ?_
  refine L_reg [1, 2] (fun K hK => ?_)
  simp [AV.isU, acells, hI, hz]
  apply hK; clear hK K
  have hE : Ext H (H ++ [AObj.row (two a b) 0 0 false, AObj.row (two 0 0) 0 0 false]) := .push _ _
  have h1 : (H ++ [AObj.row (two a b) 0 0 false, AObj.row (two 0 0) 0 0 false])[H.length]? = some (.row (two a b) 0 0 false) := by simp
  have h2 : (H ++ [AObj.row (two a b) 0 0 false, AObj.row (two 0 0) 0 0 false])[H.length + 1]? = some (.row (two 0 0) 0 0 false) := by simp
  simp only [two] at hE h1 h2
  generalize H ++ [AObj.row [AV.int IntKind.i64 a, AV.int IntKind.i64 b] 0 0 false, AObj.row [AV.int IntKind.i64 0, AV.int IntKind.i64 0] 0 0 false] = H1 at hE h1 h2 ⊢
  have e0 := ld_two0 h1
  have e1 := ld_two1 h1
  refine L_reg [1, 2, 5] (fun K hK => ?_)
  simp [e1]
  apply hK; clear hK K
  refine L_dec (b < 23) (by simp) (fun hlt => ?_) (fun hge => ?_)
  · rw [nextS, if_pos hlt] at h
    have hs := set93 (c := a) (d := b + 1) h2
    refine L_reg [2] (fun K hK => ?_)
    simp [e0, e1, wrap_i64 (a := b + 1) (by omega), hs]
    apply hK; clear hK K
    refine L_ret ⟨.inr rfl, _, res_cell rfl ?_, h _ (hE.set _ (by omega))⟩
    simp [ldn_two (get_set h2)]
  · rw [nextS, if_neg hge] at h
    have hs := set93 (c := a + 1) (d := a + 1) h2
    refine L_reg [2] (fun K hK => ?_)
    simp [e0, wrap_i64 (a := a + 1) (by omega), hs]
    apply hK; clear hK K
    refine L_ret ⟨.inr rfl, _, res_cell rfl ?_, h _ (hE.set _ (by omega))⟩
    simp [ldn_two (get_set h2)]
theorem holds_q (a b : Int) (v : AV) (l : List (Int × Int)) (H : AH) (hl : l.length ≤ 1000000) (hv : Hs H v l) (Q : AV → AH → Prop) (h : Q (.int .i64 (holdsS a b l : Nat)) H) : AC Tryd.prog 67 [.agg [.int .i64 a, .int .i64 b], v] H Q :=
  AC.quiet (belB_int _ _ _ _) (fun Q h => holds_ac a b v l H Q hl hv h) Q h
theorem next_q (a b : Int) (H : AH) (ha : -1000 ≤ a ∧ a ≤ 1000) (hb : b ≤ 1000 ∧ -1000 ≤ b) (Q : AV → AH → Prop) (h : Q (.agg [.int .i64 (nextS a b).1, .int .i64 (nextS a b).2]) H) : AC Tryd.prog 94 [.agg [.int .i64 a, .int .i64 b]] H Q :=
  AC.quiet (belB_two _ _ _ _ _ _) (fun Q h => next_ac a b H Q ha hb h) Q h

def crowdedS (a b k : Int) (l : List (Int × Int)) : Bool := decide ((b - a + 1) * k < (holdsS a b l : Nat))
set_option maxRecDepth 100000 in
theorem crowded_ac (a b k : Int) (v : AV) (l : List (Int × Int)) (H : AH) (Q : AV → AH → Prop) (hl : l.length ≤ 1000000) (hv : Hs H v l) (ha : 0 ≤ a ∧ a ≤ 100) (hb : 0 ≤ b ∧ b ≤ 100) (hk : 0 ≤ k ∧ k ≤ 1000)
    (h : ∀ H', Ext H H' → Q (.bool (crowdedS a b k l)) H') : AC Tryd.prog 93 [.agg [.int .i64 a, .int .i64 b], v, .int .i64 k] H Q := by
  refine L_body 19 Tryd.func93 rfl rfl ?_
  refine L_reg [1, 2, 3] (fun K hK => ?_)
  simp [AV.isU, acells]
  apply hK; clear hK K
  have hE : Ext H (H ++ [AObj.row (two a b) 0 0 false]) := .push _ _
  have h1 : (H ++ [AObj.row (two a b) 0 0 false])[H.length]? = some (.row (two a b) 0 0 false) := by simp
  simp only [two] at hE h1
  generalize H ++ [AObj.row [AV.int IntKind.i64 a, AV.int IntKind.i64 b] 0 0 false] = H1 at hE h1 ⊢
  generalize H.length = w at h1 ⊢
  have e0 := ld_two0 h1
  have e1 := ld_two1 h1
  have e2 := ldn_two h1
  have hm1 : (b - a + 1) * k ≤ 101 * 1000 := Int.le_trans (Int.mul_le_mul_of_nonneg_right (show b - a + 1 ≤ 101 by omega) hk.1) (Int.mul_le_mul_of_nonneg_left hk.2 (by decide))
  have hm2 : -100 * 1000 ≤ (b - a + 1) * k := Int.le_trans (by
    have := Int.mul_le_mul_of_nonneg_left hk.2 (show (0 : Int) ≤ 100 by decide)
    omega) (Int.mul_le_mul_of_nonneg_right (show -100 ≤ b - a + 1 by omega) hk.1)
  refine L_regY mixed [6] (by kernel_rfl) (fun K hK => ?_)
  simp [e2, okFn_low]
  refine exX_mk (fun Q hQ => holds_q a b v l H1 hl (hv.ext hE) Q hQ) (.refl _) ?_
  simp [e0, e1, wrap_i64 (a := b - a) (by omega), wrap_i64 (a := b - a + 1) (by omega), wrap_i64 (a := (b - a + 1) * k) (by omega)]
  apply hK; clear hK K
  exact L_ret ⟨.inr rfl, _, rfl, by simpa [crowdedS] using h _ hE⟩
theorem crowded_q (a b k : Int) (v : AV) (l : List (Int × Int)) (H : AH) (hl : l.length ≤ 1000000) (hv : Hs H v l) (ha : 0 ≤ a ∧ a ≤ 100) (hb : 0 ≤ b ∧ b ≤ 100) (hk : 0 ≤ k ∧ k ≤ 1000) (Q : AV → AH → Prop) (h : Q (.bool (crowdedS a b k l)) H) :
    AC Tryd.prog 93 [.agg [.int .i64 a, .int .i64 b], v, .int .i64 k] H Q :=
  AC.quiet (belB_bool _ _ _) (fun Q h => crowded_ac a b k v l H Q hl hv ha hb hk h) Q h

/-- What the package's variable holds. -/
def gs : List (Nat × List AV) := [(0, [.int .i64 24, .int .i64 24])]
theorem gs_load {H : AH} (hg : HasG gs H) : loadV Tryd.prog 93 H (.gptr 0 0) = some (.agg [.int .i64 24, .int .i64 24]) := by
  have : gfind H 0 = some [.int .i64 24, .int .i64 24] := (hg (0, [.int .i64 24, .int .i64 24]) (by simp [gs])).1
  rw [load_gagg ag93, this]
  rfl
def fcS (k : Int) (l : List (Int × Int)) : Nat → Int → Int → Int × Int
  | 0, a, b => (a, b)
  | n + 1, a, b => if ((a == 24 && b == 24) || crowdedS a b k l) = true then (a, b) else fcS k l n (nextS a b).1 (nextS a b).2
def spanM (a b : Int) : Nat := ((24 - a) * 24 + (24 - b)).toNat
/-- A span within the day, or the one behind the last. -/
def okSpan (a b : Int) : Prop := (0 ≤ a ∧ a ≤ b ∧ b ≤ 23) ∨ (a = 24 ∧ b = 24)
theorem next_ok {a b : Int} (h : 0 ≤ a ∧ a ≤ b ∧ b ≤ 23) : okSpan (nextS a b).1 (nextS a b).2 ∧ spanM (nextS a b).1 (nextS a b).2 < spanM a b := by
  unfold nextS okSpan spanM
  split
  · exact ⟨.inl ⟨h.1, by omega, by omega⟩, by omega⟩
  · refine ⟨?_, by omega⟩
    by_cases h24 : a = 23
    · right; omega
    · left; omega
theorem fcS_ok (k : Int) (l : List (Int × Int)) : ∀ (n : Nat) (a b : Int), okSpan a b → okSpan (fcS k l n a b).1 (fcS k l n a b).2
  | 0, a, b, h => h
  | n + 1, a, b, h => by
    unfold fcS
    split
    · exact h
    · rename_i hc
      rcases h with h | ⟨rfl, rfl⟩
      · exact fcS_ok k l n _ _ (next_ok h).1
      · simp at hc
def firstS (k : Int) (l : List (Int × Int)) : Int × Int := fcS k l 601 0 0

set_option maxRecDepth 100000 in
theorem firstCrowded_ac (k : Int) (v : AV) (l : List (Int × Int)) (H : AH) (Q : AV → AH → Prop) (hl : l.length ≤ 1000000) (hv : Hs H v l) (hk : 0 ≤ k ∧ k ≤ 1000) (hg : HasG gs H)
    (h : ∀ H', Ext H H' → Q (.agg [.int .i64 (firstS k l).1, .int .i64 (firstS k l).2]) H') : AC Tryd.prog 69 [v, .int .i64 k] H Q := by
  obtain ⟨I, hI, hz⟩ := zeroT_some zt93
  refine L_body 20 Tryd.func69 rfl rfl ?_
  refine L_reg [0, 1, 4] (fun K hK => ?_)
  simp [hI, hz]
  apply hK; clear hK K
  have hE0 : Ext H (H ++ [AObj.row (two 0 0) 0 0 false]) := .push _ _
  have h0 : (H ++ [AObj.row (two 0 0) 0 0 false])[H.length]? = some (.row (two 0 0) 0 0 false) := by simp
  have hlt0 : H.length < (H ++ [AObj.row (two 0 0) 0 0 false]).length := by simp
  simp only [two] at hE0 h0 hlt0
  generalize H ++ [AObj.row [AV.int IntKind.i64 0, AV.int IntKind.i64 0] 0 0 false] = H1 at hE0 h0 hlt0 ⊢
  generalize hw0 : H.length = w0 at h0 hlt0 ⊢
  refine L_reg [0, 1, 4, 5] (fun K hK => ?_)
  simp [hI, hz, put93]
  apply hK; clear hK K
  have hE1 : Ext H1 (H1 ++ [AObj.row (two 0 0) 0 0 false]) := .push _ _
  have h1 : (H1 ++ [AObj.row (two 0 0) 0 0 false])[H1.length]? = some (.row (two 0 0) 0 0 false) := by simp
  generalize H1 ++ [AObj.row (two 0 0) 0 0 false] = H2 at hE1 h1 ⊢
  generalize hw1 : H1.length = w1 at h1 hlt0 ⊢
  have hE2 := hE0.trans hE1
  have h02 := hE1.row h0
  refine L_block (L_loopV [] (fun m vs H' => ∃ (a b : Int) (n : Nat), m = spanM a b ∧ okSpan a b ∧ spanM a b < n ∧ firstS k l = fcS k l n a b ∧ vs = [] ∧ Ext H H' ∧ H'[w0]? = some (.row (two 0 0) 0 0 false) ∧ H'[w1]? = some (.row (two a b) 0 0 false)) _ [] rfl
    ⟨0, 0, 601, rfl, .inl (by omega), by decide, rfl, rfl, hE2, h02, h1⟩ ?_)
  rintro m _ H3 ⟨a, b, n, rfl, hab, hn, hfc, rfl, hE, h03, h13⟩
  have hab' : 0 ≤ a ∧ a ≤ 24 ∧ 0 ≤ b ∧ b ≤ 24 := by rcases hab with h | h <;> omega
  have e1 := ldn_two h13
  have eg := gs_load (hg.ext hE)
  cases n with
  | zero => omega
  | succ n =>
  have hstep : firstS k l = if ((a == 24 && b == 24) || crowdedS a b k l) = true then (a, b) else fcS k l n (nextS a b).1 (nextS a b).2 := hfc
  by_cases hp : a = 24 ∧ b = 24
  · obtain ⟨rfl, rfl⟩ := hp
    refine L_reg [0, 1, 4, 5, 16] (fun K hK => ?_)
    simp [e1, eg, b_neP pr93, pickV]
    apply hK; clear hK K
    refine L_false (by simp) (L_exit ?_)
    simp at hstep
    have hst := set93 (c := 24) (d := 24) h03
    refine L_reg [4] (fun K hK => ?_)
    simp [e1, hst]
    apply hK; clear hK K
    refine L_ret ⟨.inr rfl, _, res_cell rfl ?_, h _ (hE.set _ (by omega))⟩
    rw [hstep]
    simp [ldn_two (get_set h03)]
  · have hne : (a == 24 && b == 24) = false := by
      rw [Bool.and_eq_false_iff]
      by_cases ha : a = 24
      · right; simp; omega
      · left; simp [ha]
    have hnn : (a == (24 : Int) && b == 24) = false := hne
    rw [hne, Bool.false_or] at hstep
    refine L_reg [0, 1, 4, 5, 16] (fun K hK => ?_)
    simp [e1, eg, b_neP pr93, hne, okFn_low, pickV]
    refine crowded_q a b k v l H3 hl (hv.ext hE) (by omega) (by omega) hk _ ?_
    simp [pickV]
    apply hK; clear hK K
    cases hc : crowdedS a b k l with
    | true =>
      rw [hc] at hstep
      refine L_false (by simp) (L_exit ?_)
      simp at hstep
      have hst := set93 (c := a) (d := b) h03
      refine L_reg [4] (fun K hK => ?_)
      simp [e1, hst]
      apply hK; clear hK K
      refine L_ret ⟨.inr rfl, _, res_cell rfl ?_, h _ (hE.set _ (by omega))⟩
      rw [hstep]
      simp [ldn_two (get_set h03)]
    | false =>
      rw [hc] at hstep
      simp only [Bool.false_eq_true, if_false] at hstep
      have hin : 0 ≤ a ∧ a ≤ b ∧ b ≤ 23 := by
        rcases hab with h | h
        · exact h
        · exact absurd h hp
      obtain ⟨g1, g2⟩ := next_ok hin
      refine L_true (by simp) (L_block ?_)
      have hst := set93 (c := (nextS a b).1) (d := (nextS a b).2) h13
      refine L_reg [0, 1, 4, 5] (fun K hK => ?_)
      simp [e1, okFn_low]
      refine next_q a b H3 (by omega) (by omega) _ ?_
      simp [hst]
      apply hK; clear hK K
      refine ⟨spanM (nextS a b).1 (nextS a b).2, [], g2, by simp, _, _, n, rfl, g1, by omega, hstep, rfl, hE.set _ (by omega), ?_, get_set h13⟩
      rw [List.getElem?_set_ne (by omega)]; exact h03
theorem firstCrowded_q (k : Int) (v : AV) (l : List (Int × Int)) (H : AH) (hl : l.length ≤ 1000000) (hv : Hs H v l) (hk : 0 ≤ k ∧ k ≤ 1000) (hg : HasG gs H) (Q : AV → AH → Prop) (h : Q (.agg [.int .i64 (firstS k l).1, .int .i64 (firstS k l).2]) H) :
    AC Tryd.prog 69 [v, .int .i64 k] H Q := AC.quiet (belB_two _ _ _ _ _ _) (fun Q h => firstCrowded_ac k v l H Q hl hv hk hg h) Q h

/-- Whether there is a plan, as the program asks it. -/
def possS (k : Int) (l : List (Int × Int)) : Bool := (firstS k l).1 == 24 && (firstS k l).2 == 24
theorem possible_ac (k : Int) (v : AV) (l : List (Int × Int)) (H : AH) (Q : AV → AH → Prop) (hl : l.length ≤ 1000000) (hv : Hs H v l) (hk : 0 ≤ k ∧ k ≤ 1000) (hg : HasG gs H) (h : Q (.bool (possS k l)) H) : AC Tryd.prog 58 [v, .int .i64 k] H Q := by
  refine L_body 10 Tryd.func58 rfl rfl ?_
  refine L_reg [0, 1] (fun K hK => ?_)
  simp
  apply hK; clear hK K
  have eg := gs_load hg
  refine L_regY mixed [4] (by kernel_rfl) (fun K hK => ?_)
  simp [okFn_low]
  refine exX_mk (fun Q hQ => firstCrowded_q k v l H hl hv hk hg Q hQ) (.refl _) ?_
  simp [eg, b_eqP pr93]
  apply hK; clear hK K
  exact L_ret ⟨.inr rfl, _, rfl, by simpa [possS] using h⟩
end Go.Proofs.YtjldfcfomiopfaaDoor
