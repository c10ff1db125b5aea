/- The examples of the chapter that each law ends with. -/
import Derived.Test.YtcidcihpkdoejaaTF
namespace Go.Proofs.Ytcidcihpkdoejaa.Bo
open Go Go.Proofs.Ytcidcihpkdoejaa Go.Proofs.Ytcidcihpkdoejaa.AX
set_option maxRecDepth 100000 in
theorem works_run : callN (runZ cx 3000) 15 [] [] = some (.bool true, []) := by kernel_rfl
theorem works_ac (H : AH) (Q : AV → AH → Prop) (h : Q (.bool true) H) : AC Try.prog 15 [] H Q := AC_kernZ cx_ok 3000 works_run .nil (.bool _) h
noncomputable def cxw : Cx Try.prog where
  good := goodT
  keep := keepT
  ext f args H := bif Nat.beq f 15 then (match args with | [] => some (.bool true, H) | _ => none) else none
theorem cxw_ok : cxw.Ok where
  mixed := cx_ok.mixed
  ord f h := cx_ok.ord f h
  ext f args H v H' h := by
    simp only [cxw] at h
    cases hf : Nat.beq f 15 with
    | false => rw [hf] at h; simp at h
    | true =>
      have := Nat.eq_of_beq_eq_true hf
      subst this
      rw [hf] at h
      cases args with
      | nil => simp at h; obtain ⟨rfl, rfl⟩ := h; exact works_ac _ _ ⟨rfl, rfl⟩
      | cons a l => simp at h
end Go.Proofs.Ytcidcihpkdoejaa.Bo
