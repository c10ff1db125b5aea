/- slices.ContainsFunc, and what is asked of members. -/
import Derived.Test.YtcidcihpkdoejaaSeal
namespace Go.Proofs.Ytcidcihpkdoejaa.Bo
open Go Go.Proofs.Ytcidcihpkdoejaa Go.Proofs.Ytcidcihpkdoejaa.AX
set_option maxRecDepth 100000
def ixP (p : Nat → Bool) : Nat → List Nat → Int
  | _, [] => -1
  | i, o :: l => if p o then (i : Int) else ixP p (i + 1) l
theorem ixP_any (p : Nat → Bool) : ∀ (l : List Nat) (i : Nat), decide (0 ≤ ixP p i l) = l.any p
  | [], _ => rfl
  | o :: l, i => by
    have ih := ixP_any p l (i + 1)
    cases h : p o with
    | true => simp [ixP, h]
    | false => simp [ixP, h, ih]
theorem indexFunc_q (f : FuncId) (first cap : List AV) (p : Nat → Bool) (hfo : okFn Try.prog f = true) (l : List Nat) (u : AV) (hlen : l.length ≤ 1000000) (H : AH) (hu : Ls H u (il l)) (hso : ∀ o ∈ l, ∀ Q : AV → AH → Prop, Q (.bool (p o)) H → AC Try.prog f (first ++ .int .i64 (o : Int) :: cap) H Q) (Q : AV → AH → Prop) (h : Q (.int .i64 (ixP p 0 l)) H) : AC Try.prog 86 [u, .func (.func f) first cap] H Q := by
  refine AC.quiet (belB_int _ _ _ _) (fun Q h => ?_) Q h
  refine L_body 19 Try.func86 rfl rfl ?_
  have hvl := ls_len hu
  rw [il_len] at hvl
  refine L_reg [0, 1] (fun K hK => ?_)
  simp
  apply hK; clear hK K
  refine L_reg [0, 1, 7, 8] (fun K hK => ?_)
  simp [hvl]
  apply hK; clear hK K
  refine L_block (L_loopV [8] (fun q vs H' => ∃ i : Nat, q = l.length - i ∧ i ≤ l.length ∧ vs = [.int .i64 i] ∧ H = H' ∧ ixP p i (l.drop i) = ixP p 0 l) _ [.int .i64 (0 : Nat)] rfl ⟨0, rfl, by omega, rfl, rfl, rfl⟩ ?_)
  rintro q _ _ ⟨i, rfl, hi, rfl, rfl, hc⟩
  refine L_reg [0, 1, 7, 8, 9] (fun K hK => ?_)
  simp
  apply hK; clear hK K
  refine L_dec (i < l.length) (by simp) (fun hlt => ?_) (fun hge => L_exit ?_)
  · refine L_block ?_
    obtain ⟨rz, pz, vz, hix, hldz⟩ := il_ix hu hlt
    rw [List.drop_eq_getElem_cons hlt, ixP] at hc
    have hs := hso l[i] (List.getElem_mem hlt)
    generalize l[i] = x at hldz hc hs
    refine L_reg [0, 1, 5, 7, 8] (fun K hK => ?_)
    simp
    apply hK; clear hK K
    refine L_reg [0, 1, 5, 7, 8, 16] (fun K hK => ?_)
    simp [hfo, hix, hldz]
    refine hs _ ?_
    simp
    apply hK; clear hK K
    cases hx : p x with
    | true =>
      rw [hx, if_pos rfl] at hc
      refine L_true (by simp) ?_
      refine L_reg [4] (fun K hK => ?_)
      simp
      apply hK; clear hK K
      refine L_ret ⟨.inr rfl, _, rfl, ?_⟩
      rw [← hc] at h
      exact h _ (.refl _)
    | false =>
      rw [hx, if_neg (by simp)] at hc
      refine L_false (by simp) ?_
      refine L_reg [0, 1, 7, 8] (fun K hK => ?_)
      simp [wrap_i64 (a := (i : Int) + 1) (by omega)]
      apply hK; clear hK K
      exact ⟨l.length - (i + 1), [.int .i64 (i + 1 : Nat)], by omega, by simp, i + 1, rfl, by omega, rfl, rfl, hc⟩
  · have e : i = l.length := by omega
    subst e
    rw [List.drop_length, ixP] at hc
    refine L_reg [4] (fun K hK => ?_)
    simp
    apply hK; clear hK K
    refine L_ret ⟨.inr rfl, _, rfl, ?_⟩
    rw [← hc] at h
    exact h _ (.refl _)
theorem containsFunc_q (f : FuncId) (first cap : List AV) (p : Nat → Bool) (hfo : okFn Try.prog f = true) (l : List Nat) (u : AV) (hlen : l.length ≤ 1000000) (H : AH) (hu : Ls H u (il l)) (hso : ∀ o ∈ l, ∀ Q : AV → AH → Prop, Q (.bool (p o)) H → AC Try.prog f (first ++ .int .i64 (o : Int) :: cap) H Q) (Q : AV → AH → Prop) (h : Q (.bool (l.any p)) H) : AC Try.prog 52 [u, .func (.func f) first cap] H Q := by
  refine L_body 9 Try.func52 rfl rfl ?_
  refine L_reg [0, 1] (fun K hK => ?_)
  simp
  apply hK; clear hK K
  have e := ixP_any p l 0
  refine L_reg [4] (fun K hK => ?_)
  simp [okFn_low]
  refine indexFunc_q f first cap p hfo l u hlen _ hu hso _ ?_
  simp [e]
  apply hK; clear hK K
  refine L_ret ⟨.inr rfl, _, rfl, ?_⟩
  try rw [← e]
  simpa [e] using h
/-- Another group that lies in a group. -/
def oth (x y : Nat) : Bool := !(y == x) && sub y x
theorem other_q {x y c k : Nat} (hx : x < 64) (hy : y < 64) (H : AH) (hc : H[c]? = some (.row [.int .i64 x] 0 k false)) (Q : AV → AH → Prop) (h : Q (.bool (oth x y)) H) : AC Try.prog 53 [.int .i64 y, .ptr c 0 0] H Q := by
  refine L_body 14 Try.func53 rfl rfl ?_
  have fx : ld H c 0 0 = some (.int .i64 x) := by rw [ld_row hc]; rfl
  refine L_reg [0, 1] (fun K hK => ?_)
  simp
  apply hK; clear hK K
  have hand : ∀ tt ll, binV Try.prog .and tt ll (.int .i64 (y : Int)) (.int .i64 (x : Int)) = some (.int .i64 ((y &&& x : Nat) : Int)) := fun _ _ => n_and y x hy hx
  refine L_reg [3] (fun K hK => ?_)
  suffices hk : K [(3, .bool (oth x y))] H by
    by_cases e : y = x
    · have e1 : oth x y = false := by simp [oth, e]
      rw [e1] at hk
      simp [e, fx, pickV]
      exact hk
    · have e1 : (((y &&& x : Nat) : Int) == (y : Int)) = oth x y := by
        unfold oth sub
        rw [beq_false_of_ne e, Bool.not_false, Bool.true_and, Bool.eq_iff_iff, beq_iff_eq, beq_iff_eq]; omega
      have e2 : ((y : Int) != (x : Int)) = true := by simp; omega
      simp [e2, fx, hand, e1, pickV]
      exact hk
  apply hK; clear hK K
  exact L_ret ⟨.inr rfl, _, rfl, h⟩
end Go.Proofs.Ytcidcihpkdoejaa.Bo
