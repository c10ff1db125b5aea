/- What is coarser than both, and finer than both: the mathematics. -/
import Derived.Test.YtjaefngmidllgaaJn
namespace Go.Proofs.Ytjaefngmidllgaa.St
open Go Go.Proofs.Ytjaefngmidllgaa Go.Proofs.Ytjaefngmidllgaa.AX
set_option linter.unusedVariables false
/-- Join. -/
def jnS (a b : List Nat) : List Nat := dv (JL a b a.length)
def mtS (a b : List Nat) : List Nat := dv (prs a b)
theorem jn_len (a b : List Nat) : (jnS a b).length = a.length := by unfold jnS; rw [dv_len, JL_len]
theorem mt_len {a b : List Nat} (h : a.length = b.length) : (mtS a b).length = a.length := by unfold mtS; rw [dv_len, prs_len h]
section
variable {a b : List Nat} (hab : a.length = b.length)
include hab
theorem jn_ker {i k : Nat} (hi : i < a.length) (hk : k < a.length) : ga (jnS a b) i = ga (jnS a b) k ↔ Rj a.length a b i k := by
  have hl : (JL a b a.length).length = a.length := JL_len _
  unfold jnS
  rw [ga_dv (by omega) (by omega), ← ga_lt (l := JL a b a.length) (by omega), ← ga_lt (l := JL a b a.length) (by omega)]
  exact JL_ker rfl hab.symm hi hk
theorem jn_up1 : finB a (jnS a b) = true := finB_iff.2 fun i k hi hk e => (jn_ker hab hi hk).2 (.one hi hk (by simp [rel, e]))
theorem jn_up2 : finB b (jnS a b) = true := finB_iff.2 fun i k hi hk e => (jn_ker hab (by omega) (by omega)).2 (.one (by omega) (by omega) (by simp [rel, e]))
theorem mt_dn1 : finB (mtS a b) a = true := finB_iff.2 fun i k hi hk e => by
  rw [mt_len hab] at hi hk
  exact ((meet_ker hab hi hk).1 e).1
theorem mt_dn2 : finB (mtS a b) b = true := finB_iff.2 fun i k hi hk e => by
  rw [mt_len hab] at hi hk
  exact ((meet_ker hab hi hk).1 e).2
theorem rj_ga {l : List Nat} (h1 : finB a l = true) (h2 : finB b l = true) {i k : Nat} (h : Rj a.length a b i k) : ga l i = ga l k := by
  induction h with
  | refl => rfl
  | step h3 hj hk hr ih =>
    rw [ih]
    unfold rel at hr
    simp only [Bool.or_eq_true, beq_iff_eq] at hr
    rcases hr with hr | hr
    · exact finB_iff.1 h1 _ _ hj hk hr
    · exact finB_iff.1 h2 _ _ (by omega) (by omega) hr
theorem jn_least {l : List Nat} (h1 : finB a l = true) (h2 : finB b l = true) : finB (jnS a b) l = true := finB_iff.2 fun i k hi hk e => by
  rw [jn_len] at hi hk
  exact rj_ga hab h1 h2 ((jn_ker hab hi hk).1 e)
theorem mt_most {l : List Nat} (hl : l.length = a.length) (h1 : finB l a = true) (h2 : finB l b = true) : finB l (mtS a b) = true := finB_iff.2 fun i k hi hk e =>
  (meet_ker hab (by omega) (by omega)).2 ⟨finB_iff.1 h1 i k hi hk e, finB_iff.1 h2 i k hi hk e⟩
theorem jn_self (hb : OkD b) (h : finB a b = true) : jnS a b = b := by
  have hl : (JL a b a.length).length = a.length := JL_len _
  refine dv_eq _ _ (by rw [hl, hab]) hb.rg fun i k hi hk => ?_
  rw [← ga_lt hi, ← ga_lt hk, ← ga_lt (l := b) (by omega), ← ga_lt (l := b) (by omega), JL_ker rfl hab.symm (by omega) (by omega)]
  constructor
  · intro h3
    refine rj_ga hab h ?_ h3
    exact finB_iff.2 fun i k _ _ e => e
  · intro e
    exact .one (by omega) (by omega) (by simp [rel, e])
theorem mt_sym (hb : OkD b) (h : finB b a = true) : mtS a b = b := by
  have hl := prs_len hab
  refine dv_eq _ _ (by omega) hb.rg fun i k hi hk => ?_
  rw [prs_ker hab (by omega) (by omega), ← ga_lt (l := b) (by omega), ← ga_lt (l := b) (by omega)]
  exact ⟨fun h => h.2, fun e => ⟨finB_iff.1 h i k (by omega) (by omega) e, e⟩⟩
theorem mt_self (ha : OkD a) (h : finB a b = true) : mtS a b = a := (meet_self ha hab).2 h
end
end Go.Proofs.Ytjaefngmidllgaa.St
