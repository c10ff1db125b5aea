/- The examples of the chapter. -/
import Derived.Test.YtbimapbcpmeooaaZero
namespace Go.Proofs.Ytbimapbcpmeooaa.Cl
open Go Go.Proofs.Ytbimapbcpmeooaa Go.Proofs.Ytbimapbcpmeooaa.AX
set_option maxRecDepth 100000
theorem Make0_x (v : AV) (H : AH) (hv : Ls H v (il [0])) (Q : AV → AH → Prop) (h : Q (.tuple [.agg [.int .i64 1, .slice none 0 0 0 1 false], .int .i64 0]) H) : AC Try.prog 23 [v] H Q :=
  AC.quiet (v := .tuple [.agg [.int .i64 1, .slice none 0 0 0 1 false], .int .i64 0]) (by simp [belB]) (fun Q h => Make0_ac v H hv Q h) Q h
def isZ (c : List Nat) : Bool := match c with | [0] => true | _ => false
def qKn (f : Nat) (args : List AV) (H : AH) : Option (AV × AH) :=
  bif Nat.beq f 14 then (match args with | [] => some (.bool true, H) | _ => none)
  else match args with
    | [v] => match bif Nat.beq f 23 then qC H v else none with
      | some c => bif isZ c then some (.tuple [.agg [.int .i64 1, .slice none 0 0 0 1 false], .int .i64 0], H) else qMk f args H
      | none => qMk f args H
    | _ => qMk f args H
theorem qKn_ok {f : Nat} {args : List AV} {H H' : AH} {v : AV} (h : qKn f args H = some (v, H')) : AC Try.prog f args H fun v2 H2 => v2 = v ∧ H2 = H' := by
  unfold qKn at h
  cases h14 : Nat.beq f 14 with
  | true =>
    rw [h14] at h
    obtain rfl := Nat.eq_of_beq_eq_true h14
    cases args with
    | nil => simp at h; obtain ⟨rfl, rfl⟩ := h; exact works_ac _ _ ⟨rfl, rfl⟩
    | cons a l => simp at h
  | false =>
    rw [h14] at h
    simp only [cond_false] at h
    split at h
    · rename_i u
      split at h
      · rename_i c hc
        cases hz : isZ c with
        | false => rw [hz] at h; exact qMk_ok h
        | true =>
          rw [hz] at h
          cases h
          cases h23 : Nat.beq f 23 with
          | false => rw [h23] at hc; cases hc
          | true =>
            rw [h23] at hc
            obtain rfl := Nat.eq_of_beq_eq_true h23
            obtain ⟨-, hv⟩ := qC_ok hc
            have : c = [0] := by
              unfold isZ at hz
              split at hz
              · rfl
              · cases hz
            subst this
            exact Make0_x u H hv _ ⟨rfl, rfl⟩
      · exact qMk_ok h
    · exact qMk_ok h
noncomputable def cxk : Cx Try.prog where
  good := goodT
  keep := keepT
  ext f args H := qKn f args H
theorem cxk_ok : cxk.Ok where
  mixed := cx_ok.mixed
  ord f h := cx_ok.ord f h
  ext _f _args _H _v _H' h := qKn_ok h
theorem known_run : callN (runZ cxk 3000) 13 [] [] = some (.bool true, []) := by kernel_rfl
theorem known_ac (H : AH) : AC Try.prog 13 [] H fun v _ => v = .bool true := AC_kernZ cxk_ok 3000 known_run .nil (.bool _) rfl
end Go.Proofs.Ytbimapbcpmeooaa.Cl
