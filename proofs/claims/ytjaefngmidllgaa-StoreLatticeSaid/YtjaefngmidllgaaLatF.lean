/- Whether a division is finer, as the law asks; the visitor. -/
import Derived.Test.YtjaefngmidllgaaLatM
import Derived.Test.YtjaefngmidllgaaAll
namespace Go.Proofs.Ytjaefngmidllgaa.St
open Go Go.Proofs.Ytjaefngmidllgaa Go.Proofs.Ytjaefngmidllgaa.AX
set_option maxRecDepth 100000
set_option linter.unusedVariables false
set_option maxHeartbeats 2000000 in
theorem fin_q (a b : List Nat) (hab : a.length = b.length) (h9 : a.length ≤ 9) (u v : AV) (H : AH) (hu : Ls H u (il a)) (hv : Ls H v (il b)) (Q : AV → AH → Prop) (h : Q (.bool (finB a b)) H) : AC Try.prog 52 [u, v] H Q := by
  have hul := ils_len hu
  have hfb := @finB_iff a b
  generalize finB a b = fb at h hfb
  refine L_body 38 Try.func52 rfl rfl ?_
  refine L_reg [0, 1] (fun K hK => ?_)
  simp
  apply hK; clear hK K
  refine L_reg [0, 1, 8, 9] (fun K hK => ?_)
  simp [hul]
  apply hK; clear hK K
  refine L_block (L_loopV [9] (fun q vs H' => ∃ i : Nat, q = a.length - i ∧ i ≤ a.length ∧ vs = [.int .i64 i] ∧ H = H' ∧ ∀ x k, x < i → k < x → ga a x = ga a k → ga b x = ga b k) _ [.int .i64 (0 : Nat)] rfl ⟨0, rfl, by omega, rfl, rfl, fun x k h => by omega⟩ ?_)
  rintro q' _ _ ⟨i, rfl, hi, rfl, rfl, hI⟩
  refine L_reg [0, 1, 8, 9, 10] (fun K hK => ?_)
  simp
  apply hK; clear hK K
  refine L_dec (i < a.length) (by simp) (fun hlt => ?_) (fun hge => L_exit ?_)
  · refine L_block ?_
    refine L_reg [0, 1, 5, 8, 9] (fun K hK => ?_)
    simp
    apply hK; clear hK K
    refine L_reg [0, 1, 5, 8, 9, 12, 13] (fun K hK => ?_)
    simp
    apply hK; clear hK K
    refine L_block (L_loopV [13] (fun q vs H' => ∃ k : Nat, q = i - k ∧ k ≤ i ∧ vs = [.int .i64 k] ∧ H = H' ∧ ∀ y, y < k → ga a i = ga a y → ga b i = ga b y) _ [.int .i64 (0 : Nat)] rfl ⟨0, rfl, by omega, rfl, rfl, fun y h => by omega⟩ ?_)
    rintro q2 _ _ ⟨k, rfl, hk, rfl, rfl, hK2⟩
    refine L_reg [0, 1, 5, 8, 9, 12, 13, 14] (fun K hK => ?_)
    simp
    apply hK; clear hK K
    refine L_dec (k < i) (by simp) (fun hkl => ?_) (fun hge => L_exit ?_)
    · refine L_block ?_
      obtain ⟨r1, p1, v1, x1, y1⟩ := il_ix hu (i := i) (by omega)
      obtain ⟨r2, p2, v2, x2, y2⟩ := il_ix hu (i := k) (by omega)
      obtain ⟨r3, p3, v3, x3, y3⟩ := il_ix hv (i := i) (by omega)
      obtain ⟨r4, p4, v4, x4, y4⟩ := il_ix hv (i := k) (by omega)
      have ea : ga a i = a[i] := ga_lt (by omega)
      have eb : ga a k = a[k] := ga_lt (by omega)
      have ec : ga b i = b[i] := ga_lt (by omega)
      have ed : ga b k = b[k] := ga_lt (by omega)
      generalize a[i] = a1 at y1 ea
      generalize a[k] = a2 at y2 eb
      generalize b[i] = a3 at y3 ec
      generalize b[k] = a4 at y4 ed
      refine L_reg [0, 1, 5, 6, 8, 9, 12, 13] (fun K hK => ?_)
      simp
      apply hK; clear hK K
      by_cases c1 : a1 = a2
      · subst c1
        by_cases c2 : a3 = a4
        · subst c2
          refine L_regT mixed [0, 1, 5, 8, 9, 12, 13, 35] (by kernel_rfl) (fun K hK => ?_)
          simp [x1, y1, x2, y2, x3, y3, x4, y4, pickV]
          apply hK; clear hK K
          refine L_false (by first | rfl | simp) ?_
          refine L_reg [0, 1, 5, 8, 9, 12, 13] (fun K hK => ?_)
          simp [wrap_i64 (a := (k : Int) + 1) (by omega)]
          apply hK; clear hK K
          refine ⟨i - (k + 1), [.int .i64 (k + 1 : Nat)], by omega, by simp, k + 1, rfl, by omega, rfl, rfl, fun y hy e => ?_⟩
          rcases Nat.lt_or_ge y k with g | g
          · exact hK2 y g e
          · obtain rfl : y = k := by omega
            rw [ec, ed]
        · have hne : ((a3 : Int) == (a4 : Int)) = false := beq_eq_false_iff_ne.2 (by omega)
          refine L_regT mixed [0, 1, 5, 8, 9, 12, 13, 35] (by kernel_rfl) (fun K hK => ?_)
          simp [x1, y1, x2, y2, x3, y3, x4, y4, pickV]
          apply hK; clear hK K
          refine L_true (by first | rfl | (simp; omega) | (simp; exact c2)) ?_
          have : fb = false := by
            cases fb with
            | false => rfl
            | true =>
              have := hfb.1 rfl i k (by omega) (by omega) (by rw [ea, eb])
              rw [ec, ed] at this
              exact absurd this c2
          subst this
          refine L_reg [4] (fun K hK => ?_)
          simp
          apply hK; clear hK K
          exact L_ret ⟨.inr rfl, _, rfl, h⟩
      · have hne : ((a1 : Int) == (a2 : Int)) = false := beq_eq_false_iff_ne.2 (by omega)
        refine L_regT mixed [0, 1, 5, 8, 9, 12, 13, 35] (by kernel_rfl) (fun K hK => ?_)
        simp [x1, y1, x2, y2, pickV, hne]
        apply hK; clear hK K
        refine L_false (by first | rfl | simp [hne]) ?_
        refine L_reg [0, 1, 5, 8, 9, 12, 13] (fun K hK => ?_)
        simp [wrap_i64 (a := (k : Int) + 1) (by omega)]
        apply hK; clear hK K
        refine ⟨i - (k + 1), [.int .i64 (k + 1 : Nat)], by omega, by simp, k + 1, rfl, by omega, rfl, rfl, fun y hy e => ?_⟩
        rcases Nat.lt_or_ge y k with g | g
        · exact hK2 y g e
        · obtain rfl : y = k := by omega
          rw [ea, eb] at e
          exact absurd e c1
    · obtain rfl : k = i := by omega
      refine L_reg [0, 1, 8, 9] (fun K hK => ?_)
      simp [wrap_i64 (a := (k : Int) + 1) (by omega)]
      apply hK; clear hK K
      refine ⟨a.length - (k + 1), [.int .i64 (k + 1 : Nat)], by omega, by simp, k + 1, rfl, by omega, rfl, rfl, fun x y h1 h2 e => ?_⟩
      rcases Nat.lt_or_ge x k with g | g
      · exact hI x y g h2 e
      · obtain rfl : x = k := by omega
        exact hK2 y h2 e
  · have : fb = true := hfb.2 fun x y hx hy e => by
      rcases Nat.lt_trichotomy x y with g | rfl | g
      · exact (hI y x (by omega) g e.symm).symm
      · rfl
      · exact hI x y (by omega) g e
    subst this
    refine L_reg [4] (fun K hK => ?_)
    simp
    apply hK; clear hK K
    exact L_ret ⟨.inr rfl, _, rfl, h⟩
/-- What the visitor of StoreLattice needs; it changes nothing while all is well. -/
structure SL (pf pa pb pj pm pg : Nat) (a b j m : List Nat) (u v w z : AV) (H : AH) : Prop where
  sf : ∃ t, H[pf]? = some (.row [.func (.func 52) [] []] 0 t false)
  sa : ∃ t, H[pa]? = some (.row [u] 0 t false)
  sb : ∃ t, H[pb]? = some (.row [v] 0 t false)
  sj : ∃ t, H[pj]? = some (.row [w] 0 t false)
  sm : ∃ t, H[pm]? = some (.row [z] 0 t false)
  la : Ls H u (il a)
  lb : Ls H v (il b)
  lj : Ls H w (il j)
  lm : Ls H z (il m)
set_option maxHeartbeats 8000000 in
theorem visL_ok (pf pa pb pj pm pg n N : Nat) (h1 : 1 ≤ n) (h6 : n ≤ 9) (a b : List Nat) (hal : a.length = n) (hab : a.length = b.length) (u v w z : AV) : Vis n (fun _ => False) N 53 [.ptr pf 0 0, .ptr pa 0 0, .ptr pb 0 0, .ptr pj 0 0, .ptr pm 0 0, .ptr pg 0 0] (fun (_ : Unit) => SL pf pa pb pj pm pg a b (jnS a b) (mtS a b) u v w z) (fun st _ => st) where
  ok := by kernel_rfl
  lt j hj := hj.elim
  ext st H H' hS hE := by
    obtain ⟨⟨m1, f⟩, ⟨m2, a'⟩, ⟨m3, b'⟩, ⟨m4, j'⟩, ⟨m5, m'⟩, la, lb, lj, lm⟩ := hS
    exact ⟨⟨m1, hE.row f⟩, ⟨m2, hE.row a'⟩, ⟨m3, hE.row b'⟩, ⟨m4, hE.row j'⟩, ⟨m5, hE.row m'⟩, la.ext hE, lb.ext hE, lj.ext hE, lm.ext hE⟩
  step := by
    rintro st x d H Q hN hS hx hrv hr hdl h
    have hSall := hS
    obtain ⟨⟨m1, f⟩, ⟨m2, a'⟩, ⟨m3, b'⟩, ⟨m4, j'⟩, ⟨m5, m'⟩, la, lb, lj, lm⟩ := hS
    have Lf : ld H pf 0 0 = some (.func (.func 52) [] []) := by rw [ld_row f]; rfl
    have La : ld H pa 0 0 = some u := by rw [ld_row a']; exact ls_known la
    have Lb : ld H pb 0 0 = some v := by rw [ld_row b']; exact ls_known lb
    have Lj : ld H pj 0 0 = some w := by rw [ld_row j']; exact ls_known lj
    have Lm : ld H pm 0 0 = some z := by rw [ld_row m']; exact ls_known lm
    have kJ : finB a d = true → finB b d = true → finB (jnS a b) d = true := fun h1 h2 => jn_least hab h1 h2
    have kM : finB d a = true → finB d b = true → finB d (mtS a b) = true := fun h1 h2 => mt_most hab (by omega) h1 h2
    have hjl := jn_len a b
    have hml := mt_len hab
    have q1 := fin_q a d (by omega) (by omega) u x H la hx
    have q2 := fin_q b d (by omega) (by omega) v x H lb hx
    have q3 := fin_q (jnS a b) d (by omega) (by omega) w x H lj hx
    have q4 := fin_q d a (by omega) (by omega) x u H hx la
    have q5 := fin_q d b (by omega) (by omega) x v H hx lb
    have q6 := fin_q d (mtS a b) (by omega) (by omega) x z H hx lm
    generalize finB a d = c1 at q1 kJ
    generalize finB b d = c2 at q2 kJ
    generalize finB (jnS a b) d = c3 at q3 kJ
    generalize finB d a = c4 at q4 kM
    generalize finB d b = c5 at q5 kM
    generalize finB d (mtS a b) = c6 at q6 kM
    refine L_body 44 Try.func53 rfl rfl ?_
    refine L_reg [6, 43] (fun K hK => ?_)
    suffices hk : K [(6, .ptr pg 0 0), (43, .bool false)] H by
      have hok52 : okFn Try.prog 52 = true := by kernel_rfl
      simp [hok52, Lf, La]
      refine q1 _ ?_
      cases c1 with
      | false =>
        simp [hok52, pickV, Lf, La]
        refine q4 _ ?_
        cases c4 with
        | false => simp [pickV]; exact hk
        | true =>
          simp [hok52, Lf, Lb]
          refine q5 _ ?_
          cases c5 with
          | false => simp [pickV]; exact hk
          | true =>
            simp [hok52, pickV, Lf, Lm]
            refine q6 _ ?_
            rw [kM rfl rfl]
            simp [pickV]; exact hk
      | true =>
        simp [hok52, Lf, Lb]
        refine q2 _ ?_
        cases c2 with
        | false =>
          simp [hok52, pickV, Lf, La]
          refine q4 _ ?_
          cases c4 with
          | false => simp [pickV]; exact hk
          | true =>
            simp [hok52, Lf, Lb]
            refine q5 _ ?_
            cases c5 with
            | false => simp [pickV]; exact hk
            | true =>
              simp [hok52, pickV, Lf, Lm]
              refine q6 _ ?_
              rw [kM rfl rfl]
              simp [pickV]; exact hk
        | true =>
          simp [hok52, pickV, Lf, Lj]
          refine q3 _ ?_
          rw [kJ rfl rfl]
          simp [hok52, pickV, Lf, La]
          refine q4 _ ?_
          cases c4 with
          | false => simp [pickV]; exact hk
          | true =>
            simp [hok52, Lf, Lb]
            refine q5 _ ?_
            cases c5 with
            | false => simp [pickV]; exact hk
            | true =>
              simp [hok52, pickV, Lf, Lm]
              refine q6 _ ?_
              rw [kM rfl rfl]
              simp [pickV]; exact hk
    apply hK; clear hK K
    refine L_false rfl ?_
    exact ⟨.inl rfl, _, rfl, h H hSall (.refl _ _)⟩
end Go.Proofs.Ytjaefngmidllgaa.St
