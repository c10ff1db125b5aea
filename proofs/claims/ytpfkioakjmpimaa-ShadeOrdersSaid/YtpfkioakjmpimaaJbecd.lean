/- Joined texts: OrdF, OrdG, OrdH, Bytes, In64. -/
import Derived.Test.YtpfkioakjmpimaaJbecc
import Derived.Test.YtpfkioakjmpimaaJbecb
/- Orders: Number, of the program and of the reference. -/
namespace Go.Proofs.Ytpfkioakjmpimaa
open Go Go.Proofs.Ytpfkioakjmpimaa.AX
set_option linter.unusedVariables false
/-- How many turning orders come before, by the first i places. -/
def nu (l : List Int) : Nat → Int := sumN fun j => sumN (folS l.length (l.take j)) (g l j).toNat
def nuE (l : List Int) : Int := if orE l = 0 then (if altB l = true then 0 else 12) else orE l
def nuV (l : List Int) : Int := if nuE l = 0 then nu l l.length else 0
theorem sumN_ub {f : Nat → Int} {M : Int} : ∀ {n : Nat}, (∀ i, i < n → 0 ≤ f i ∧ f i ≤ M) → 0 ≤ sumN f n ∧ sumN f n ≤ M * n
  | 0, _ => by simp [sumN]
  | n + 1, h => by
    have h1 := sumN_ub (f := f) (M := M) (n := n) fun i hi => h i (by omega)
    have h2 := h n (by omega)
    simp only [sumN]
    rw [show ((n + 1 : Nat) : Int) = (n : Int) + 1 by omega, Int.mul_add]
    omega
structure Ord (l : List Int) : Prop where
  h1 : 1 ≤ l.length
  h9 : l.length ≤ 9
  rg : ∀ i, i < l.length → 0 ≤ g l i ∧ g l i < l.length
  bg : ∀ i, i ≤ l.length → Beg l.length (l.take i)
  nm : ∀ i, i < l.length → g l i ∉ l.take i
theorem ord_of {l : List Int} (h : orE l = 0) : Ord l := by
  obtain ⟨h1, h2, h3⟩ := orE_all h
  refine ⟨h1, h2, fun i hi => ?_, fun i hi => or_beg hi fun j hj => h3 j (by omega), fun i hi => ?_⟩
  · have := h3 i hi
    unfold orAt at this
    split at this
    · rename_i c; exact c
    · cases this
  · have := h3 i hi
    unfold orAt at this
    split at this
    · split at this
      · cases this
      · rename_i m; exact m
    · cases this
theorem Ord.fb {l : List Int} (h : Ord l) {i : Nat} (hi : i < l.length) : ∀ x, x < l.length → 0 ≤ folS l.length (l.take i) x ∧ folS l.length (l.take i) x ≤ 100000 := fun x hx =>
  fol_bd h.h9 (h.bg i (by omega)) (by simp; omega) hx
theorem Ord.ib {l : List Int} (h : Ord l) {i x : Nat} (hi : i < l.length) (hx : x ≤ l.length) : 0 ≤ sumN (folS l.length (l.take i)) x ∧ sumN (folS l.length (l.take i)) x ≤ 1000000 := by
  have := sumN_ub (f := folS l.length (l.take i)) (M := 100000) (n := x) fun y hy => h.fb hi y (by omega)
  have := h.h9
  omega
theorem Ord.nb {l : List Int} (h : Ord l) {i : Nat} (hi : i ≤ l.length) : 0 ≤ nu l i ∧ nu l i ≤ 10000000 := by
  have := sumN_ub (f := fun j => sumN (folS l.length (l.take j)) (g l j).toNat) (M := 1000000) (n := i) fun j hj => h.ib (by omega) (by have := h.rg j (by omega); omega)
  have := h.h9
  show 0 ≤ sumN _ i ∧ sumN _ i ≤ _
  omega
set_option maxRecDepth 100000 in
theorem Number_ac (v : AV) (l : List Int) (H : AH) (Q : AV → AH → Prop) (hlen : l.length ≤ 1000000) (hv : Ls H v l) (h : Q (.tuple [.int .i64 (nuV l), .int .i64 (nuE l)]) H) : AC Try.prog 43 [v] H Q := by
  have hl := ls_len hv
  refine L_body 43 Try.func43 rfl rfl ?_
  refine L_reg [0] (fun K hK => ?_)
  simp
  apply hK; clear hK K
  refine L_reg [0, 4, 5] (fun K hK => ?_)
  simp [okFn_low]
  refine Turning_ac v l _ _ hlen hv ?_
  simp
  apply hK; clear hK K
  refine L_reg [0, 4, 5, 16] (fun K hK => ?_)
  simp
  apply hK; clear hK K
  by_cases he : orE l = 0
  · refine L_false (by simp [he]) ?_
    have ht : turB l = altB l := by unfold turB; rw [if_pos he]
    refine L_reg [0, 19] (fun K hK => ?_)
    simp [ht]
    apply hK; clear hK K
    cases ha : altB l with
    | false =>
      have e1 : nuE l = 12 := by unfold nuE; rw [if_pos he, ha]; rfl
      have e2 : nuV l = 0 := by unfold nuV; rw [e1]; rfl
      rw [e1, e2] at h
      refine L_true rfl ?_
      refine L_reg [2, 3] (fun K hK => ?_)
      simp
      apply hK; clear hK K
      exact L_ret ⟨.inr rfl, _, rfl, h⟩
    | true =>
      have e1 : nuE l = 0 := by unfold nuE; rw [if_pos he, ha]; rfl
      have e2 : nuV l = nu l l.length := by unfold nuV; rw [if_pos e1]
      rw [e1, e2] at h
      have hO := ord_of he
      refine L_false rfl ?_
      refine L_reg [0, 6] (fun K hK => ?_)
      simp
      apply hK; clear hK K
      refine L_reg [0, 6, 20, 21, 22] (fun K hK => ?_)
      simp [hl]
      apply hK; clear hK K
      refine L_block (L_loopV [6, 22] (fun n vs H' => ∃ i : Nat, n = l.length - i ∧ i ≤ l.length ∧ vs = [.int .i64 (nu l i), .int .i64 i] ∧ H = H') _ [.int .i64 0, .int .i64 0] rfl ⟨0, rfl, by omega, rfl, rfl⟩ ?_)
      rintro _ _ _ ⟨i, rfl, hi, rfl, rfl⟩
      refine L_reg [0, 6, 20, 21, 22, 23] (fun K hK => ?_)
      simp
      apply hK; clear hK K
      refine L_dec (i < l.length) (by simp) (fun hlt => ?_) (fun hge => L_exit ?_)
      · refine L_block ?_
        obtain ⟨rz, pz, vz, hix, hld⟩ := ls_ix hv hlt
        have hg := hO.rg i hlt
        have hnb := hO.nb hi
        have hnx : nu l (i + 1) = nu l i + sumN (folS l.length (l.take i)) (g l i).toNat := rfl
        obtain ⟨y, hy⟩ : ∃ y : Nat, g l i = y := ⟨(g l i).toNat, by omega⟩
        rw [hy] at hg hnx hld
        rw [show ((y : Int)).toNat = y by omega] at hnx
        refine L_reg [0, 6, 7, 8, 20, 21, 22] (fun K hK => ?_)
        simp [hix, hld]
        apply hK; clear hK K
        refine L_reg [0, 6, 7, 20, 21, 22, 27, 28] (fun K hK => ?_)
        simp
        apply hK; clear hK K
        refine L_block (L_loopV [6, 28] (fun n vs H' => ∃ x : Nat, n = y - x ∧ x ≤ y ∧ vs = [.int .i64 (nu l i + sumN (folS l.length (l.take i)) x), .int .i64 x] ∧ H = H') _ [.int .i64 (nu l i), .int .i64 0] rfl ⟨0, rfl, by omega, by simp [sumN], rfl⟩ ?_)
        rintro _ _ _ ⟨x, rfl, hx, rfl, rfl⟩
        refine L_reg [0, 6, 7, 20, 21, 22, 27, 28, 29] (fun K hK => ?_)
        simp
        apply hK; clear hK K
        refine L_dec (x < y) (by simp) (fun hlx => ?_) (fun hgx => L_exit ?_)
        · refine L_block ?_
          refine L_reg [0, 6, 7, 9, 20, 21, 22, 27, 28] (fun K hK => ?_)
          simp
          apply hK; clear hK K
          obtain ⟨u, hu1, hu2⟩ := ls_hi hv (by omega) (m := i) (by omega)
          have hsb := hO.ib hlt (x := x) (by omega)
          have hfb := hO.fb hlt x (by omega)
          refine L_reg [0, 6, 7, 20, 21, 22, 27, 28] (fun K hK => ?_)
          simp [okFn_low, hl, hu1]
          refine following_ac l.length u (l.take i) x _ _ hO.h9 (hO.bg i hi) (by simp; omega) (by omega) hu2 ?_
          simp [wrap_i64 (a := nu l i + sumN (folS l.length (l.take i)) x + folS l.length (l.take i) x) (by omega)]
          apply hK; clear hK K
          refine L_reg [0, 6, 7, 20, 21, 22, 27, 28] (fun K hK => ?_)
          simp [wrap_i64 (a := (x : Int) + 1) (by omega)]
          apply hK; clear hK K
          exact ⟨y - (x + 1), [.int .i64 (nu l i + sumN (folS l.length (l.take i)) (x + 1)), .int .i64 (x + 1 : Nat)], by omega, by simp [sumN, Int.add_assoc], x + 1, rfl, by omega, rfl, rfl⟩
        · obtain rfl : x = y := by omega
          refine L_reg [0, 6, 20, 21, 22] (fun K hK => ?_)
          simp [wrap_i64 (a := (i : Int) + 1) (by omega)]
          apply hK; clear hK K
          exact ⟨l.length - (i + 1), [.int .i64 (nu l (i + 1)), .int .i64 (i + 1 : Nat)], by omega, by simp [hnx], i + 1, rfl, by omega, rfl, rfl⟩
      · obtain rfl : i = l.length := by omega
        refine L_reg [2, 3] (fun K hK => ?_)
        simp
        apply hK; clear hK K
        exact L_ret ⟨.inr rfl, _, rfl, h⟩
  · have e1 : nuE l = orE l := by unfold nuE; rw [if_neg he]
    have e2 : nuV l = 0 := by unfold nuV; rw [e1, if_neg he]
    rw [e1, e2] at h
    refine L_true (by simp [he]) ?_
    refine L_reg [2, 3] (fun K hK => ?_)
    simp
    apply hK; clear hK K
    exact L_ret ⟨.inr rfl, _, rfl, h⟩
theorem cnt_at {l : List Int} (h : Ord l) {i : Nat} (hi : i < l.length) {x : Nat} (hx : x < l.length) (hm : (x : Int) ∉ l.take i) : cntS l.length (l.length - 1 - i) (l.take i ++ [(x : Int)]) = folS l.length (l.take i) x :=
  cnt_fol l.length (l.length - 1 - i) (l.take i) x (h.bg i (by omega)) (by simp; omega) hx hm
set_option maxRecDepth 100000 in
theorem NumberR_ac (v : AV) (l : List Int) (H : AH) (Q : AV → AH → Prop) (hlen : l.length ≤ 1000000) (hv : Ls H v l) (h : Q (.tuple [.int .i64 (nuV l), .int .i64 (nuE l)]) H) : AC Try.prog 44 [v] H Q := by
  refine AC.quiet (by simp [belB]) (fun Q h => ?_) Q h
  have hl := ls_len hv
  refine L_body 57 Try.func44 rfl rfl ?_
  refine L_reg [0] (fun K hK => ?_)
  simp
  apply hK; clear hK K
  refine L_reg [0, 4, 5] (fun K hK => ?_)
  simp [okFn_low]
  refine TurningR_ac v l _ _ hlen hv ?_
  simp
  apply hK; clear hK K
  by_cases he : orE l = 0
  · have ht : turB l = altB l := by unfold turB; rw [if_pos he]
    refine L_reg [0, 5, 19] (fun K hK => ?_)
    simp [he, ht, pickV]
    apply hK; clear hK K
    cases ha : altB l with
    | false =>
      have e1 : nuE l = 12 := by unfold nuE; rw [if_pos he, ha]; rfl
      have e2 : nuV l = 0 := by unfold nuV; rw [e1]; rfl
      rw [e1, e2] at h
      refine L_true rfl ?_
      refine L_reg [0, 5] (fun K hK => ?_)
      simp
      apply hK; clear hK K
      refine L_reg [0, 5, 21] (fun K hK => ?_)
      simp
      apply hK; clear hK K
      refine L_true rfl ?_
      refine L_reg [2, 3] (fun K hK => ?_)
      simp
      apply hK; clear hK K
      exact L_ret ⟨.inr rfl, _, rfl, h H (.refl _)⟩
    | true =>
      have e1 : nuE l = 0 := by unfold nuE; rw [if_pos he, ha]; rfl
      have e2 : nuV l = nu l l.length := by unfold nuV; rw [if_pos e1]
      rw [e1, e2] at h
      have hO := ord_of he
      refine L_false rfl ?_
      refine L_reg [0, 5, 21] (fun K hK => ?_)
      simp
      apply hK; clear hK K
      refine L_false rfl ?_
      refine L_reg [0, 6] (fun K hK => ?_)
      simp
      apply hK; clear hK K
      refine L_reg [0, 6, 7] (fun K hK => ?_)
      simp
      apply hK; clear hK K
      refine L_block (L_loopV [6, 7] (fun n vs H' => ∃ i : Nat, n = l.length - i ∧ i ≤ l.length ∧ vs = [.int .i64 (nu l i), .int .i64 i] ∧ Ext H H') _ [.int .i64 0, .int .i64 0] rfl ⟨0, rfl, by omega, rfl, .refl _⟩ ?_)
      rintro _ _ H1 ⟨i, rfl, hi, rfl, hE⟩
      have hv1 := hv.ext hE
      have hl1 := ls_len hv1
      refine L_reg [0, 6, 7, 26] (fun K hK => ?_)
      simp [hl1]
      apply hK; clear hK K
      refine L_dec (i < l.length) (by simp) (fun hlt => ?_) (fun hge => L_exit ?_)
      · refine L_block ?_
        have hg := hO.rg i hlt
        have hnb := hO.nb hi
        have hnx : nu l (i + 1) = nu l i + sumN (folS l.length (l.take i)) (g l i).toNat := rfl
        obtain ⟨y, hy⟩ : ∃ y : Nat, g l i = y := ⟨(g l i).toNat, by omega⟩
        rw [hy] at hg hnx
        rw [show ((y : Int)).toNat = y by omega] at hnx
        refine L_reg [0, 6, 7, 8] (fun K hK => ?_)
        simp
        apply hK; clear hK K
        refine L_block (L_loopV [6, 8] (fun n vs H' => ∃ x : Nat, n = y - x ∧ x ≤ y ∧ vs = [.int .i64 (nu l i + sumN (folS l.length (l.take i)) x), .int .i64 x] ∧ Ext H H') _ [.int .i64 (nu l i), .int .i64 0] rfl ⟨0, rfl, by omega, by simp [sumN], hE⟩ ?_)
        rintro _ _ H2 ⟨x, rfl, hx, rfl, hE2⟩
        have hv2 := hv.ext hE2
        have hl2 := ls_len hv2
        obtain ⟨rz, pz, vz, hix, hld⟩ := ls_ix hv2 hlt
        rw [hy] at hld
        refine L_reg [0, 6, 7, 8, 34] (fun K hK => ?_)
        simp [hix, hld]
        apply hK; clear hK K
        refine L_dec (x < y) (by simp) (fun hlx => ?_) (fun hgx => L_exit ?_)
        · refine L_block ?_
          obtain ⟨u, hu1, hu2⟩ := ls_hi hv2 (by omega) (m := i) (by omega)
          have hsb := hO.ib hlt (x := x) (by omega)
          have hfb := hO.fb hlt x (by omega)
          refine L_reg [0, 6, 7, 8, 42] (fun K hK => ?_)
          simp [okFn_low, hu1]
          refine has_ac u (l.take i) x _ _ (by simp; omega) hu2 ?_
          simp
          apply hK; clear hK K
          by_cases m : (x : Int) ∈ l.take i
          · have ef : folS l.length (l.take i) x = 0 := by unfold folS; rw [if_pos (.inl m)]
            refine L_false (by simp [m]) ?_
            refine L_reg [0, 6, 7, 8] (fun K hK => ?_)
            simp [wrap_i64 (a := (x : Int) + 1) (by omega)]
            apply hK; clear hK K
            exact ⟨y - (x + 1), [.int .i64 (nu l i + sumN (folS l.length (l.take i)) (x + 1)), .int .i64 (x + 1 : Nat)], by omega, by simp [sumN, ef], x + 1, rfl, by omega, rfl, hE2⟩
          · refine L_true (by simp [m]) ?_
            have ec := cnt_at hO hlt (x := x) (by omega) m
            have hB := (hO.bg i hi).snoc (x := x) (by omega) m
            have hB0 : Ext H2 (H2 ++ [AObj.row [] 0 0 false]) := .push _ _
            obtain ⟨u1, H3, p1, p2, p3⟩ := ownF_appendL (P := Try.prog) hB0 el22 el22 (ownF_new H2) (hu2.ext hB0) (by simp; omega)
            have hB2 : Ext H3 (H3 ++ [AObj.row [AV.int .i64 x] 0 1 false]) := .push _ _
            have hsx : Ls (H3 ++ [AObj.row [AV.int .i64 x] 0 1 false]) (.slice (some H3.length) 0 1 0 1 false) [(x : Int)] := Ls.row (ro := false) (l := [(x : Int)]) (s := 1) (by simp) false
            obtain ⟨u2, H4, q1, q2, q3⟩ := ownF_appendL (P := Try.prog) (p3.trans hB2) el22 el22 (ownF_ext p2 hB2) hsx (by simp; omega)
            refine L_reg [0, 6, 7, 8] (fun K hK => ?_)
            simp [okFn_low, hl2, hu1, p1, q1]
            refine countR_ac l.length hO.h9 (l.length - 1 - i) (l.take i ++ [(x : Int)]) u2 H4 _ hB (by simp; omega) (by have := q2.own.ls; simpa using this) ?_
            simp [ec, wrap_i64 (a := nu l i + sumN (folS l.length (l.take i)) x + folS l.length (l.take i) x) (by omega)]
            apply hK; clear hK K
            refine L_reg [0, 6, 7, 8] (fun K hK => ?_)
            simp [wrap_i64 (a := (x : Int) + 1) (by omega)]
            apply hK; clear hK K
            exact ⟨y - (x + 1), [.int .i64 (nu l i + sumN (folS l.length (l.take i)) (x + 1)), .int .i64 (x + 1 : Nat)], by omega, by simp [sumN, Int.add_assoc], x + 1, rfl, by omega, rfl, hE2.trans q3⟩
        · obtain rfl : x = y := by omega
          refine L_reg [0, 6, 7] (fun K hK => ?_)
          simp [wrap_i64 (a := (i : Int) + 1) (by omega)]
          apply hK; clear hK K
          exact ⟨l.length - (i + 1), [.int .i64 (nu l (i + 1)), .int .i64 (i + 1 : Nat)], by omega, by simp [hnx], i + 1, rfl, by omega, rfl, hE2⟩
      · obtain rfl : i = l.length := by omega
        refine L_reg [2, 3] (fun K hK => ?_)
        simp
        apply hK; clear hK K
        exact L_ret ⟨.inr rfl, _, rfl, h H1 hE⟩
  · have e1 : nuE l = orE l := by unfold nuE; rw [if_neg he]
    have e2 : nuV l = 0 := by unfold nuV; rw [e1, if_neg he]
    rw [e1, e2] at h
    have hne : (orE l == 0) = false := by simp [he]
    refine L_reg [0, 5, 19] (fun K hK => ?_)
    simp [hne, pickV]
    apply hK; clear hK K
    refine L_false rfl ?_
    refine L_reg [0, 5, 21] (fun K hK => ?_)
    simp
    apply hK; clear hK K
    refine L_true (by simp [he]) ?_
    refine L_reg [2, 3] (fun K hK => ?_)
    simp
    apply hK; clear hK K
    exact L_ret ⟨.inr rfl, _, rfl, h H (.refl _)⟩
end Go.Proofs.Ytpfkioakjmpimaa

/- Orders: At, of the program and of the reference. -/
namespace Go.Proofs.Ytpfkioakjmpimaa
open Go Go.Proofs.Ytpfkioakjmpimaa.AX
set_option linter.unusedVariables false
/-- Where a number falls among sums. -/
def Falls (F : Nat → Int) (k : Int) (x : Nat) : Prop := sumN F x ≤ k ∧ k < sumN F (x + 1)
theorem falls_ex {F : Nat → Int} {k : Int} (h0 : 0 ≤ k) : ∀ {n : Nat}, k < sumN F n → ∃ x, x < n ∧ Falls F k x
  | 0, h => by simp only [sumN] at h; omega
  | n + 1, h => by
    by_cases c : k < sumN F n
    · obtain ⟨x, h1, h2⟩ := falls_ex h0 c
      exact ⟨x, by omega, h2⟩
    · exact ⟨n, by omega, by omega, h⟩
theorem sumN_mono {F : Nat → Int} {n : Nat} (hF : ∀ i, i < n → 0 ≤ F i) : ∀ {x y : Nat}, x ≤ y → y ≤ n → sumN F x ≤ sumN F y
  | x, 0, h, _ => by rw [show x = 0 by omega]; exact Int.le_refl _
  | x, y + 1, h, hy => by
    by_cases e : x = y + 1
    · rw [e]; exact Int.le_refl _
    · have h1 := sumN_mono hF (x := x) (y := y) (by omega) (by omega)
      have h2 := hF y (by omega)
      simp only [sumN]; omega
/-- The first i numbers of the order that has a number, and what is left of it. -/
structure At (n : Nat) (k : Int) (o : List Int) (r : Int) : Prop where
  bg : Beg n o
  alt : altB o = true
  ge : 0 ≤ r
  lt : r < if o.length = n then 1 else sumN (folS n o) n
theorem at_next {n : Nat} {k r : Int} {o : List Int} (h9 : n ≤ 9) (h : At n k o r) (hl : o.length < n) : ∃ x, x < n ∧ Falls (folS n o) r x ∧ (x : Int) ∉ o ∧ At n k (o ++ [(x : Int)]) (r - sumN (folS n o) x) := by
  have hlt := h.lt
  rw [if_neg (by omega)] at hlt
  obtain ⟨x, hx, h1, h2⟩ := falls_ex h.ge hlt
  have hs : sumN (folS n o) (x + 1) = sumN (folS n o) x + folS n o x := rfl
  have hpos : 0 < folS n o x := by omega
  have hm : (x : Int) ∉ o := fun m => by
    have : folS n o x = 0 := by unfold folS; rw [if_pos (.inl m)]
    omega
  have ha : altB (o ++ [(x : Int)]) = true := by
    cases e : altB (o ++ [(x : Int)]) with
    | true => rfl
    | false =>
      have : folS n o x = 0 := by unfold folS; rw [if_pos (.inr e)]
      omega
  refine ⟨x, hx, ⟨h1, h2⟩, hm, h.bg.snoc hx hm, ha, by omega, ?_⟩
  have hc := cnt_fol n (n - 1 - o.length) o x h.bg (by omega) hx hm
  by_cases e : (o ++ [(x : Int)]).length = n
  · rw [if_pos e]
    have e2 : n - 1 - o.length = 0 := by simp at e; omega
    rw [e2] at hc
    unfold cntS at hc
    rw [ha, if_neg (by simp)] at hc
    omega
  · rw [if_neg e]
    obtain ⟨d, hd⟩ : ∃ d, n - 1 - o.length = d + 1 := ⟨n - 1 - o.length - 1, by simp at e; omega⟩
    rw [hd] at hc
    unfold cntS at hc
    rw [ha, if_neg (by simp)] at hc
    have e3 : sumN (fun y => if (y : Int) ∈ o ++ [(x : Int)] then 0 else cntS n d (o ++ [(x : Int)] ++ [(y : Int)])) n = sumN (folS n (o ++ [(x : Int)])) n := sumN_eq fun y hy => by
      by_cases m : (y : Int) ∈ o ++ [(x : Int)]
      · rw [if_pos m]; unfold folS; rw [if_pos (.inl m)]
      · rw [if_neg m, cnt_fol n d (o ++ [(x : Int)]) y (h.bg.snoc hx hm) (by simp; omega) hy m]
    rw [e3] at hc
    omega
theorem at_start {n : Nat} {k : Int} (h1 : 1 ≤ n) (hk : 0 ≤ k ∧ k < ec n) : At n k [] k := by
  refine ⟨.nil n, by simp [altB], hk.1, ?_⟩
  rw [if_neg (by simp; omega)]
  have : sumN (folS n []) n = ec n := by
    obtain ⟨m, rfl⟩ : ∃ m, n = m + 1 := ⟨n - 1, by omega⟩
    unfold ec
    rw [sum_N, ern_len, Nat.add_sub_cancel]
    exact sumN_eq fun x hx => by rw [fol_nil]; unfold eb; rw [Nat.add_sub_cancel]
  omega
/-- The steps from the beginning of an order to all of it. -/
inductive Path (n : Nat) : List Int → Int → List Int → Prop
  | done {o : List Int} {r : Int} : o.length = n → Path n o r o
  | next {o o' : List Int} {r : Int} {x : Nat} : o.length < n → x < n → Falls (folS n o) r x → (x : Int) ∉ o → Path n (o ++ [(x : Int)]) (r - sumN (folS n o) x) o' → Path n o r o'
theorem Path.inv {n : Nat} {o o' : List Int} {r : Int} (h : Path n o r o') (hl : o.length < n) : ∃ x, x < n ∧ Falls (folS n o) r x ∧ Path n (o ++ [(x : Int)]) (r - sumN (folS n o) x) o' := by
  cases h with
  | done hd => omega
  | next _ hx hf _ hp => exact ⟨_, hx, hf, hp⟩
theorem Path.fin {n : Nat} {o o' : List Int} {r : Int} (h : Path n o r o') (hl : ¬ o.length < n) : o' = o := by
  cases h with
  | done hd => rfl
  | next hl2 _ _ _ _ => exact absurd hl2 hl
theorem falls_eq {F : Nat → Int} {n : Nat} {k : Int} (hF : ∀ i, i < n → 0 ≤ F i) {x y : Nat} (hx : x < n) (hy : y < n) (h1 : Falls F k x) (h2 : Falls F k y) : x = y := by
  rcases Nat.lt_trichotomy x y with c | c | c
  · have h3 := sumN_mono hF (x := x + 1) (y := y) (by omega) (by omega)
    have := h1.2; have := h2.1; omega
  · exact c
  · have h3 := sumN_mono hF (x := y + 1) (y := x) (by omega) (by omega)
    have := h2.2; have := h1.1; omega
theorem path_ex {n : Nat} {k : Int} (h9 : n ≤ 9) : ∀ (d : Nat) (o : List Int) (r : Int), o.length + d = n → At n k o r → ∃ o', Path n o r o'
  | 0, o, r, hd, _ => ⟨o, .done (by omega)⟩
  | d + 1, o, r, hd, h => by
    obtain ⟨x, h1, h2, h3, h4⟩ := at_next h9 h (by omega)
    obtain ⟨o', h5⟩ := path_ex h9 d _ _ (by simp; omega) h4
    exact ⟨o', .next (by omega) h1 h2 h3 h5⟩
set_option maxRecDepth 100000 in
theorem pick_ac (n : Nat) (v : AV) (b : List Int) (k : Int) (x : Nat) (H : AH) (Q : AV → AH → Prop) (h9 : n ≤ 9) (hb : Beg n b) (hl : b.length < n) (hx : x < n) (hk : Falls (folS n b) k x) (hv : Ls H v b) (h : Q (.tuple [.int .i64 x, .int .i64 (sumN (folS n b) x)]) H) : AC Try.prog 83 [.int .i64 n, v, .int .i64 k] H Q := by
  have hF : ∀ i, i < n → 0 ≤ folS n b i ∧ folS n b i ≤ 100000 := fun i hi => fol_bd h9 hb hl hi
  refine L_body 28 Try.func83 rfl rfl ?_
  refine L_reg [0, 1, 2, 6, 7] (fun K hK => ?_)
  simp
  apply hK; clear hK K
  refine L_reg [0, 1, 2, 6, 7, 9, 10] (fun K hK => ?_)
  simp
  apply hK; clear hK K
  refine L_block (L_loopV [6, 7, 10] (fun m vs H' => ∃ (y : Nat) (z : Int), m = n - y ∧ y ≤ x ∧ vs = [.int .i64 z, .int .i64 (sumN (folS n b) y), .int .i64 y] ∧ H = H') _ [.int .i64 0, .int .i64 0, .int .i64 0] rfl ⟨0, 0, rfl, by omega, rfl, rfl⟩ ?_)
  rintro _ _ _ ⟨y, z, rfl, hy, rfl, rfl⟩
  have hsb := sumN_ub (f := folS n b) (M := 100000) (n := y) fun i hi => hF i (by omega)
  have hfb := hF y (by omega)
  refine L_reg [0, 1, 2, 6, 7, 9, 10, 11] (fun K hK => ?_)
  simp
  apply hK; clear hK K
  refine L_true (by simp; omega) ?_
  refine L_block ?_
  refine L_reg [0, 1, 2, 6, 7, 9, 10] (fun K hK => ?_)
  simp
  apply hK; clear hK K
  refine L_reg [0, 1, 2, 6, 7, 8, 9, 10] (fun K hK => ?_)
  simp [okFn_low]
  refine following_ac n v b y _ _ h9 hb hl (by omega) hv ?_
  simp
  apply hK; clear hK K
  have hs : sumN (folS n b) (y + 1) = sumN (folS n b) y + folS n b y := rfl
  refine L_reg [0, 1, 2, 6, 7, 8, 9, 10, 21] (fun K hK => ?_)
  simp [wrap_i64 (a := sumN (folS n b) y + folS n b y) (by omega)]
  apply hK; clear hK K
  by_cases c : y = x
  · subst c
    refine L_true (by simp; have := hk.2; omega) ?_
    refine L_exit ?_
    refine L_reg [6, 7] (fun K hK => ?_)
    simp
    apply hK; clear hK K
    exact L_ret ⟨.inr rfl, _, rfl, h⟩
  · have hm := sumN_mono (F := folS n b) (n := n) (fun i hi => (hF i hi).1) (x := y + 1) (y := x) (by omega) (by omega)
    refine L_false (by simp; have := hk.1; omega) ?_
    refine L_reg [0, 1, 2, 6, 7, 9, 10] (fun K hK => ?_)
    simp [wrap_i64 (a := sumN (folS n b) y + folS n b y) (by omega)]
    apply hK; clear hK K
    refine L_reg [0, 1, 2, 6, 7, 9, 10] (fun K hK => ?_)
    simp [wrap_i64 (a := (y : Int) + 1) (by omega)]
    apply hK; clear hK K
    exact ⟨n - (y + 1), [.int .i64 y, .int .i64 (sumN (folS n b) (y + 1)), .int .i64 (y + 1 : Nat)], by omega, by simp [hs], y + 1, _, rfl, by omega, rfl, rfl⟩
def atE (n k : Int) : Int := if (1 ≤ n ∧ n ≤ 9) ∧ 0 ≤ k ∧ k < ec n.toNat then 0 else 1
theorem ec_bd : ∀ n, n ≤ 9 → 0 ≤ ec n ∧ ec n ≤ 100000 := by decide
set_option maxRecDepth 100000 in
theorem At_ac (n k : Int) (o : List Int) (H : AH) (Q : AV → AH → Prop) (ho : atE n k = 0 → Path n.toNat [] k o) (ho2 : atE n k ≠ 0 → o = []) (h : ∀ w H', Ls H' w o → Ext H H' → Q (.tuple [w, .int .i64 (atE n k)]) H') : AC Try.prog 41 [.int .i64 n, .int .i64 k] H Q := by
  refine L_body 41 Try.func41 rfl rfl ?_
  refine L_reg [0, 1] (fun K hK => ?_)
  simp
  apply hK; clear hK K
  by_cases a : 1 ≤ n ∧ n ≤ 9
  · obtain ⟨m, rfl⟩ : ∃ m : Nat, n = m := ⟨n.toNat, by omega⟩
    have hec := ec_bd m (by omega)
    by_cases a4 : k < 0
    · have e : atE m k = 1 := by unfold atE; rw [if_neg (by omega)]
      rw [e] at h ho2
      refine L_reg [0, 1, 21] (fun K hK => ?_)
      simp [okFn_low]
      refine isOrder_ac _ true (by simp [a]) _ _ ?_
      simp [pickV, a4]
      apply hK; clear hK K
      refine L_true rfl ?_
      refine L_reg [4, 5] (fun K hK => ?_)
      simp
      apply hK; clear hK K
      have := ho2 (by decide); subst this
      exact L_ret ⟨.inr rfl, _, rfl, (h _ H (.nil _) (.refl _))⟩
    · by_cases a5 : ec m ≤ k
      · have e : atE m k = 1 := by unfold atE; rw [if_neg (by simp; omega)]
        rw [e] at h ho2
        refine L_reg [0, 1, 21] (fun K hK => ?_)
        simp [okFn_low]
        refine isOrder_ac _ true (by simp [a]) _ _ ?_
        simp [okFn_low, pickV, a4]
        refine count_ac m (by omega) (by omega) _ _ ?_
        simp [pickV, a5]
        apply hK; clear hK K
        refine L_true rfl ?_
        refine L_reg [4, 5] (fun K hK => ?_)
        simp
        apply hK; clear hK K
        have := ho2 (by decide); subst this
        exact L_ret ⟨.inr rfl, _, rfl, (h _ H (.nil _) (.refl _))⟩
      · have e : atE m k = 0 := by unfold atE; rw [if_pos (by simp; omega)]
        rw [e] at h ho ho2
        have hp := ho rfl
        rw [show ((m : Int)).toNat = m by omega] at hp
        refine L_reg [0, 1, 21] (fun K hK => ?_)
        simp [okFn_low]
        refine isOrder_ac _ true (by simp [a]) _ _ ?_
        simp [okFn_low, pickV, a4]
        refine count_ac m (by omega) (by omega) _ _ ?_
        simp [pickV, a5]
        apply hK; clear hK K
        refine L_false rfl ?_
        refine L_reg [0, 1, 6] (fun K hK => ?_)
        simp
        apply hK; clear hK K
        refine L_reg [0, 1, 6, 22, 23] (fun K hK => ?_)
        simp
        apply hK; clear hK K
        have hk1 : -1000000 ≤ k ∧ k ≤ 1000000 := by omega
        refine L_block (L_loopV [1, 6, 23] (fun q vs H' => ∃ (b : List Int) (w : AV) (r : Int), q = m - b.length ∧ b.length ≤ m ∧ Path m b r o ∧ At m k b r ∧ r ≤ 1000000 ∧ vs = [.int .i64 r, w, .int .i64 b.length] ∧ Ls H' w b ∧ Ext H H') _ [.int .i64 k, .slice none 0 0 0 1 false, .int .i64 0] rfl ⟨[], _, k, rfl, by simp, hp, at_start (by omega) (by omega), by omega, rfl, .nil _, .refl _⟩ ?_)
        rintro _ _ H1 ⟨b, w, r, rfl, hbl, hP, hA, hr, rfl, hw, hE⟩
        refine L_reg [0, 1, 6, 22, 23, 24] (fun K hK => ?_)
        simp
        apply hK; clear hK K
        refine L_dec (b.length < m) (by simp) (fun hlt => ?_) (fun hge => L_exit ?_)
        · refine L_block ?_
          obtain ⟨x, hx, hfl, hP2⟩ := hP.inv hlt
          obtain ⟨x', hx', hfl', -, hA'⟩ := at_next (by omega) hA hlt
          have hF : ∀ i, i < m → 0 ≤ folS m b i ∧ folS m b i ≤ 100000 := fun i hi => fol_bd (by omega) hA.bg hlt hi
          have hxx : x' = x := falls_eq (fun i hi => (hF i hi).1) hx' hx hfl' hfl
          subst hxx
          have hsb := sumN_ub (f := folS m b) (M := 100000) (n := x') fun i hi => hF i (by omega)
          have hsb2 := hfl.1
          refine L_reg [0, 1, 6, 7, 8, 22, 23] (fun K hK => ?_)
          simp [okFn_low]
          refine pick_ac m w b r x' _ _ (by omega) hA.bg hlt hx hfl hw ?_
          simp
          apply hK; clear hK K
          have hE1 : Ext H1 (H1 ++ [AObj.row [AV.int .i64 x'] 0 1 false]) := .push _ _
          have hs : Ls (H1 ++ [AObj.row [AV.int .i64 x'] 0 1 false]) (.slice (some H1.length) 0 1 0 1 false) [(x' : Int)] := Ls.row (ro := false) (l := [(x' : Int)]) (s := 1) (by simp) false
          refine L_reg [0, 1, 6, 8, 22, 23] (fun K hK => ?_)
          simp [okFn_low]
          refine joined_ac w _ b [(x' : Int)] _ _ (by simp) (by simp; omega) (hw.ext hE1) hs (fun w2 H2 hO hE2 => ?_)
          simp
          apply hK; clear hK K
          refine L_reg [0, 1, 6, 22, 23] (fun K hK => ?_)
          simp [wrap_i64 (a := r - sumN (folS m b) x') (by omega)]
          apply hK; clear hK K
          refine L_reg [0, 1, 6, 22, 23] (fun K hK => ?_)
          simp [wrap_i64 (a := (b.length : Int) + 1) (by omega)]
          apply hK; clear hK K
          exact ⟨m - (b ++ [(x' : Int)]).length, [.int .i64 (r - sumN (folS m b) x'), w2, .int .i64 (b ++ [(x' : Int)]).length], by simp; omega, by simp, b ++ [(x' : Int)], w2, _, rfl, by simp; omega, hP2, hA', by omega, rfl, hO.own.ls, hE.trans (hE1.trans hE2)⟩
        · have := hP.fin (by omega)
          subst this
          refine L_reg [4, 5] (fun K hK => ?_)
          simp
          apply hK; clear hK K
          exact L_ret ⟨.inr rfl, _, rfl, (h w H1 hw hE)⟩
  · have e : atE n k = 1 := by unfold atE; rw [if_neg (fun h => a h.1)]
    rw [e] at h ho2
    refine L_reg [0, 1, 21] (fun K hK => ?_)
    simp [okFn_low]
    refine isOrder_ac _ false (by simp; omega) _ _ ?_
    simp [pickV]
    apply hK; clear hK K
    refine L_true rfl ?_
    refine L_reg [4, 5] (fun K hK => ?_)
    simp
    apply hK; clear hK K
    have := ho2 (by decide); subst this
    exact L_ret ⟨.inr rfl, _, rfl, (h _ H (.nil _) (.refl _))⟩
end Go.Proofs.Ytpfkioakjmpimaa

/- Orders: At, of the reference; and the law's walk. -/
namespace Go.Proofs.Ytpfkioakjmpimaa
open Go Go.Proofs.Ytpfkioakjmpimaa.AX
set_option linter.unusedVariables false
set_option maxRecDepth 100000 in
set_option maxHeartbeats 1000000 in
theorem AtR_ac (n k : Int) (hk64 : -9223372036854775808 ≤ k ∧ k ≤ 9223372036854775807) (o : List Int) (H : AH) (Q : AV → AH → Prop) (ho : atE n k = 0 → Path n.toNat [] k o) (ho2 : atE n k ≠ 0 → o = []) (h : ∀ w H', Ls H' w o → Ext H H' → Q (.tuple [w, .int .i64 (atE n k)]) H') : AC Try.prog 42 [.int .i64 n, .int .i64 k] H Q := by
  refine L_body 57 Try.func42 rfl rfl ?_
  refine L_reg [0, 1] (fun K hK => ?_)
  simp
  apply hK; clear hK K
  by_cases a : 1 ≤ n ∧ n ≤ 9
  · obtain ⟨m, rfl⟩ : ∃ m : Nat, n = m := ⟨n.toNat, by omega⟩
    have hec := ec_bd m (by omega)
    have e1 : cnV m = ec m := by unfold cnV; rw [if_pos a, show ((m : Int)).toNat = m by omega]
    have e2 : cnE m = 0 := by unfold cnE; rw [if_pos a]
    refine L_reg [0, 1, 6, 7] (fun K hK => ?_)
    simp [okFn_low]
    refine CountR_ac m _ _ ?_
    simp [e1, e2]
    apply hK; clear hK K
    by_cases a5 : 0 ≤ k ∧ k ≤ ec m - 1
    · have e : atE m k = 0 := by unfold atE; rw [if_pos (by simp; omega)]
      rw [e] at h ho ho2
      have hp := ho rfl
      rw [show ((m : Int)).toNat = m by omega] at hp
      refine L_reg [0, 1, 7, 24] (fun K hK => ?_)
      simp [okFn_low, wrap_i64 (a := ec m - 1) (by omega)]
      refine in_ac _ _ _ _ _ ?_
      simp [pickV]
      apply hK; clear hK K
      refine L_false (by simp; omega) ?_
      refine L_reg [0, 1, 7, 26] (fun K hK => ?_)
      simp
      apply hK; clear hK K
      refine L_false rfl ?_
      refine L_reg [0, 1, 8] (fun K hK => ?_)
      simp
      apply hK; clear hK K
      refine L_block (L_loopV [1, 8] (fun q vs H' => ∃ (b : List Int) (w : AV) (r : Int), q = m - b.length ∧ b.length ≤ m ∧ Path m b r o ∧ At m k b r ∧ r ≤ 1000000 ∧ vs = [.int .i64 r, w] ∧ OwnF H.length H' w (b.map (.int .i64)) ∧ Ext H H') _ [.int .i64 k, .slice none 0 0 0 1 false] rfl ⟨[], _, k, rfl, by simp, hp, at_start (by omega) (by omega), by omega, rfl, .nil _ _, .refl _⟩ ?_)
      rintro _ _ H1 ⟨b, w, r, rfl, hbl, hP, hA, hr, rfl, hw, hE⟩
      have hwl := ls_len hw.own.ls
      refine L_reg [0, 1, 8, 31] (fun K hK => ?_)
      simp [hwl]
      apply hK; clear hK K
      refine L_dec (b.length < m) (by simp) (fun hlt => ?_) (fun hge => L_exit ?_)
      · refine L_block ?_
        obtain ⟨x, hx, hfl, hP2⟩ := hP.inv hlt
        obtain ⟨x', hx', hfl', -, hA'⟩ := at_next (by omega) hA hlt
        have hF : ∀ i, i < m → 0 ≤ folS m b i ∧ folS m b i ≤ 100000 := fun i hi => fol_bd (by omega) hA.bg hlt hi
        have hxx : x' = x := falls_eq (fun i hi => (hF i hi).1) hx' hx hfl' hfl
        subst hxx
        have hge0 := hA.ge
        refine L_reg [0, 1, 8, 9] (fun K hK => ?_)
        simp
        apply hK; clear hK K
        refine L_block (L_loopV [1, 9] (fun q vs H' => ∃ y : Nat, q = m - y ∧ y ≤ x' ∧ vs = [.int .i64 (r - sumN (folS m b) y), .int .i64 y] ∧ Ext H1 H') _ [.int .i64 r, .int .i64 0] rfl ⟨0, rfl, by omega, by simp [sumN], .refl _⟩ ?_)
        rintro _ _ H2 ⟨y, rfl, hy, rfl, hE2⟩
        have hw2 := ownF_ext hw hE2
        have hsb := sumN_ub (f := folS m b) (M := 100000) (n := y) fun i hi => hF i (by omega)
        have hfb := hF y (by omega)
        have hs : sumN (folS m b) (y + 1) = sumN (folS m b) y + folS m b y := rfl
        refine L_block ?_
        refine L_reg [0, 1, 8, 9, 10] (fun K hK => ?_)
        simp
        apply hK; clear hK K
        have hm1 := sumN_mono (F := folS m b) (n := m) (fun i hi => (hF i hi).1) (x := y) (y := x') (by omega) (by omega)
        have hf1 := hfl.1
        have hf2 := hfl.2
        have hs2 : sumN (folS m b) (x' + 1) = sumN (folS m b) x' + folS m b x' := rfl
        refine L_reg [0, 1, 8, 9, 10, 35] (fun K hK => ?_)
        simp [okFn_low]
        refine has_ac w b y _ _ (by omega) hw2.own.ls ?_
        simp
        apply hK; clear hK K
        by_cases mm : (y : Int) ∈ b
        · have ef : folS m b y = 0 := by unfold folS; rw [if_pos (.inl mm)]
          have hyx : y ≠ x' := fun e => by subst e; omega
          refine L_false (by simp [mm]) ?_
          refine L_reg [0, 1, 8, 9, 10, 46] (fun K hK => ?_)
          simp
          apply hK; clear hK K
          refine L_false (by simp; omega) ?_
          refine L_reg [0, 1, 8, 9] (fun K hK => ?_)
          simp [wrap_i64 (a := r - sumN (folS m b) y) (by omega)]
          apply hK; clear hK K
          refine L_reg [0, 1, 8, 9] (fun K hK => ?_)
          simp [wrap_i64 (a := (y : Int) + 1) (by omega)]
          apply hK; clear hK K
          exact ⟨m - (y + 1), [.int .i64 (r - sumN (folS m b) (y + 1)), .int .i64 (y + 1 : Nat)], by omega, by simp [hs, ef], y + 1, rfl, by omega, rfl, hE2⟩
        · refine L_true (by simp [mm]) ?_
          have ec' := cnt_fol m (m - 1 - b.length) b y hA.bg (by omega) (by omega) mm
          have hB := hA.bg.snoc (x := y) (by omega) mm
          have hB0 : Ext H2 (H2 ++ [AObj.row [] 0 0 false]) := .push _ _
          obtain ⟨u1, H3, p1, p2, p3⟩ := ownF_appendL (P := Try.prog) hB0 el22 el22 (ownF_new H2) (hw2.own.ls.ext hB0) (by simp; omega)
          have hB2 : Ext H3 (H3 ++ [AObj.row [AV.int .i64 y] 0 1 false]) := .push _ _
          have hsx : Ls (H3 ++ [AObj.row [AV.int .i64 y] 0 1 false]) (.slice (some H3.length) 0 1 0 1 false) [(y : Int)] := Ls.row (ro := false) (l := [(y : Int)]) (s := 1) (by simp) false
          obtain ⟨u2, H4, z1, z2, z3⟩ := ownF_appendL (P := Try.prog) (p3.trans hB2) el22 el22 (ownF_ext p2 hB2) hsx (by simp; omega)
          refine L_reg [0, 1, 8, 9, 10] (fun K hK => ?_)
          simp [okFn_low, p1, z1]
          refine countR_ac m (by omega) (m - 1 - b.length) (b ++ [(y : Int)]) u2 H4 _ hB (by simp; omega) (by have := z2.own.ls; simpa using this) ?_
          simp [ec']
          apply hK; clear hK K
          have hE4 := hE2.trans z3
          refine L_reg [0, 1, 8, 9, 10, 46] (fun K hK => ?_)
          simp
          apply hK; clear hK K
          by_cases c : y = x'
          · subst c
            refine L_true (by simp; omega) ?_
            refine L_exit ?_
            have hE14 := hE.trans hE4
            obtain ⟨v', H5, happ, hO5, hE5⟩ := ownF_append (P := Try.prog) hE14 el22 el22 (x := .int .i64 y) (m := 1) (ownF_ext hw hE4) rfl (by simp; omega)
            refine L_reg [0, 1, 8] (fun K hK => ?_)
            simp [happ]
            apply hK; clear hK K
            exact ⟨m - (b ++ [(y : Int)]).length, [.int .i64 (r - sumN (folS m b) y), v'], by simp; omega, by simp, b ++ [(y : Int)], v', _, rfl, by simp; omega, hP2, hA', by omega, rfl, by simpa using hO5, hE5⟩
          · have hm2 := sumN_mono (F := folS m b) (n := m) (fun i hi => (hF i hi).1) (x := y + 1) (y := x') (by omega) (by omega)
            refine L_false (by simp; omega) ?_
            refine L_reg [0, 1, 8, 9] (fun K hK => ?_)
            simp [wrap_i64 (a := r - sumN (folS m b) y - folS m b y) (by omega)]
            apply hK; clear hK K
            refine L_reg [0, 1, 8, 9] (fun K hK => ?_)
            simp [wrap_i64 (a := (y : Int) + 1) (by omega)]
            apply hK; clear hK K
            exact ⟨m - (y + 1), [.int .i64 (r - sumN (folS m b) (y + 1)), .int .i64 (y + 1 : Nat)], by omega, by simp [hs]; omega, y + 1, rfl, by omega, rfl, hE4⟩
      · have := hP.fin (by omega)
        subst this
        refine L_reg [4, 5] (fun K hK => ?_)
        simp
        apply hK; clear hK K
        exact L_ret ⟨.inr rfl, _, rfl, (h w H1 hw.own.ls hE)⟩
    · have e : atE m k = 1 := by unfold atE; rw [if_neg (by simp; omega)]
      rw [e] at h ho2
      refine L_reg [0, 1, 7, 24] (fun K hK => ?_)
      simp [okFn_low, wrap_i64 (a := ec m - 1) (by omega)]
      refine in_ac _ _ _ _ _ ?_
      simp [pickV]
      apply hK; clear hK K
      refine L_true (by simp; omega) ?_
      refine L_reg [0, 1, 7] (fun K hK => ?_)
      simp
      apply hK; clear hK K
      refine L_reg [0, 1, 7, 26] (fun K hK => ?_)
      simp
      apply hK; clear hK K
      refine L_true rfl ?_
      refine L_reg [4, 5] (fun K hK => ?_)
      simp
      apply hK; clear hK K
      have := ho2 (by decide); subst this
      exact L_ret ⟨.inr rfl, _, rfl, (h _ H (.nil _) (.refl _))⟩
  · have e : atE n k = 1 := by unfold atE; rw [if_neg (fun h => a h.1)]
    rw [e] at h ho2
    have e1 : cnV n = 0 := by unfold cnV; rw [if_neg a]
    have e2 : cnE n = 1 := by unfold cnE; rw [if_neg a]
    refine L_reg [0, 1, 6, 7] (fun K hK => ?_)
    simp [okFn_low]
    refine CountR_ac n _ _ ?_
    simp [e1, e2]
    apply hK; clear hK K
    refine L_reg [0, 1, 7, 24] (fun K hK => ?_)
    simp [pickV]
    apply hK; clear hK K
    refine L_false rfl ?_
    refine L_reg [0, 1, 7, 26] (fun K hK => ?_)
    simp
    apply hK; clear hK K
    refine L_true rfl ?_
    refine L_reg [4, 5] (fun K hK => ?_)
    simp
    apply hK; clear hK K
    have := ho2 (by decide); subst this
    exact L_ret ⟨.inr rfl, _, rfl, (h _ H (.nil _) (.refl _))⟩
theorem neq_bb (l a : Bool) : binV Try.prog .neq 4 l (.bool a) (.bool a) = some (.bool false) := by
  cases a <;> simp [binV, aBin, aCmp, Try.underlying4]
theorem at_list (n k : Int) : ∃ o : List Int, (atE n k = 0 → Path n.toNat [] k o) ∧ (atE n k ≠ 0 → o = []) := by
  by_cases e : atE n k = 0
  · have a : (1 ≤ n ∧ n ≤ 9) ∧ 0 ≤ k ∧ k < ec n.toNat := by
      unfold atE at e
      split at e
      · rename_i c; exact c
      · cases e
    obtain ⟨o, ho⟩ := path_ex (n := n.toNat) (k := k) (by omega) n.toNat [] k (by simp) (at_start (by omega) ⟨a.2.1, a.2.2⟩)
    exact ⟨o, fun _ => ho, fun h => absurd e h⟩
  · exact ⟨[], fun h => absurd h e, fun _ => rfl⟩
theorem Path.len {n : Nat} {o o' : List Int} {r : Int} (h : Path n o r o') : o'.length = n := by
  induction h with
  | done hd => exact hd
  | next _ _ _ _ _ ih => exact ih
set_option maxRecDepth 100000 in
set_option maxHeartbeats 1000000 in
theorem shadeOrders_ac (v : AV) (l : List Int) (c f k : Int) (hk64 : -9223372036854775808 ≤ k ∧ k ≤ 9223372036854775807) (H : AH) (hv : Ls H v l) : AC Try.prog 6 [v, .int .i64 c, .int .i64 f, .int .i64 k] H fun u _ => u = .bool true := by
  have hl := ls_len hv
  refine L_body 130 Try.func6 rfl rfl ?_
  refine L_reg [0, 1, 2, 3] (fun K hK => ?_)
  simp
  apply hK; clear hK K
  refine L_reg [0, 1, 2, 3, 25] (fun K hK => ?_)
  simp [hl]
  apply hK; clear hK K
  by_cases h60 : 60 < l.length
  · refine L_true (by simp; omega) ?_
    refine L_reg [8] (fun K hK => ?_)
    simp [okFn_low]
    refine works_ac _ _ ?_
    simp
    apply hK; clear hK K
    exact L_ret ⟨.inr rfl, _, rfl, rfl⟩
  · refine L_false (by simp; omega) ?_
    obtain ⟨o, ho, ho2⟩ := at_list c k
    have hol : o.length ≤ 9 := by
      by_cases e : atE c k = 0
      · rw [(ho e).len]
        have : (1 ≤ c ∧ c ≤ 9) ∧ 0 ≤ k ∧ k < ec c.toNat := by
          unfold atE at e
          split at e
          · rename_i a; exact a
          · cases e
        omega
      · rw [ho2 e]; simp
    refine L_reg [0, 1, 2, 3, 9, 10] (fun K hK => ?_)
    simp [okFn_low]
    refine Turning_ac v l _ _ (by omega) hv ?_
    simp
    apply hK; clear hK K
    refine L_reg [0, 1, 2, 3, 9, 10, 11, 12] (fun K hK => ?_)
    simp [okFn_low]
    refine TurningR_ac v l _ _ (by omega) hv ?_
    simp
    apply hK; clear hK K
    refine L_reg [0, 1, 2, 3, 9, 10, 11, 12, 13, 14] (fun K hK => ?_)
    simp [okFn_low]
    refine Count_ac c _ _ ?_
    simp
    apply hK; clear hK K
    refine L_reg [0, 1, 2, 3, 9, 10, 11, 12, 13, 14, 15, 16] (fun K hK => ?_)
    simp [okFn_low]
    refine CountR_ac c _ _ ?_
    simp
    apply hK; clear hK K
    refine L_reg [0, 1, 2, 3, 64] (fun K hK => ?_)
    simp [pickV, neq_bb]
    apply hK; clear hK K
    refine L_false rfl ?_
    refine L_reg [0, 1, 2, 3, 13, 14] (fun K hK => ?_)
    simp [okFn_low]
    refine Begin_ac c f _ _ ?_
    simp
    apply hK; clear hK K
    refine L_reg [0, 1, 3, 13, 14, 15, 16] (fun K hK => ?_)
    simp [okFn_low]
    refine BeginR_ac c f (.inr trivial) _ _ ?_
    simp
    apply hK; clear hK K
    refine L_reg [0, 1, 3, 13, 14, 15, 16, 17, 18] (fun K hK => ?_)
    simp [okFn_low]
    refine At_ac c k o _ _ ho ho2 (fun w1 H1 hw1 hE1 => ?_)
    simp
    apply hK; clear hK K
    refine L_reg [0, 13, 14, 15, 16, 17, 18, 19, 20] (fun K hK => ?_)
    simp [okFn_low]
    refine AtR_ac c k hk64 o _ _ ho ho2 (fun w2 H2 hw2 hE2 => ?_)
    simp
    apply hK; clear hK K
    have hv2 := (hv.ext hE1).ext hE2
    refine L_reg [0, 10, 13, 14, 15, 16, 17, 18, 19, 20, 21] (fun K hK => ?_)
    simp [okFn_low]
    refine Number_ac v l _ _ (by omega) hv2 ?_
    simp
    apply hK; clear hK K
    refine L_reg [10, 12, 13, 14, 15, 16, 17, 18, 19, 20, 21, 22] (fun K hK => ?_)
    simp [okFn_low]
    refine NumberR_ac v l _ _ (by omega) hv2 ?_
    simp
    apply hK; clear hK K
    refine L_reg [8] (fun K hK => ?_)
    simp [okFn_low, pickV]
    refine same_ac w1 w2 o o _ _ (by omega) (hw1.ext hE2) hw2 ?_
    simp [okFn_low, pickV]
    refine works_ac _ _ ?_
    simp [pickV]
    apply hK; clear hK K
    exact L_ret ⟨.inr rfl, _, rfl, rfl⟩
end Go.Proofs.Ytpfkioakjmpimaa

/- Bytes that came. -/
namespace Go.Proofs.Ytpfkioakjmpimaa
open Go Go.Proofs.Ytpfkioakjmpimaa.AX

theorem u8_of {a : Int} (h : (Lit.int .u8 a).wf = true) : ∃ n : Nat, a = n ∧ n < 256 := by
  have h1 : 0 ≤ a ∧ a ≤ 255 := by
    simp [Lit.wf, IntKind.min, IntKind.max, IntKind.bits, IntKind.signed] at h
    omega
  exact ⟨a.toNat, by omega, by omega⟩
theorem u8_in {a : Int} (h : (Lit.int .u8 a).wf = true) : 0 ≤ a ∧ a < 256 := by
  obtain ⟨n, rfl, hn⟩ := u8_of h
  omega
theorem by_ok {l : List Int} (b : ∀ x ∈ l, IntKind.u8.min ≤ x ∧ x ≤ IntKind.u8.max) : ∀ x ∈ l, 0 ≤ x ∧ x < 256 := fun x hx => by
  have h := b x hx
  have e1 : IntKind.u8.min = 0 := rfl
  have e2 : IntKind.u8.max = 255 := rfl
  omega
end Go.Proofs.Ytpfkioakjmpimaa

/- What an int may be. -/
namespace Go.Proofs.Ytpfkioakjmpimaa
open Go Go.Proofs.Ytpfkioakjmpimaa.AX
theorem i64_in {a : Int} (h : (Lit.int .i64 a).wf = true) : -9223372036854775808 ≤ a ∧ a ≤ 9223372036854775807 := by
  simp [Lit.wf, IntKind.min, IntKind.max, IntKind.bits, IntKind.signed] at h
  omega
end Go.Proofs.Ytpfkioakjmpimaa
