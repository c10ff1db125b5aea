/- The law of the examples. -/
import Derived.Test.YtojblooaiojmcaaBig
import Derived.Test.YtojblooaiojmcaaWorks
namespace Go.Proofs.Ytojblooaiojmcaa
open Go Go.Proofs.Ytojblooaiojmcaa.AX

noncomputable def extK : Caller := fun f args H =>
  bif Nat.beq f 33 then
    match args with
    | [.int .i64 a, .int .i64 b] => bif ieq a 8 && ieq b 8 then some (.tuple [.int .i64 4782969, .int .i64 0], H) else none
    | _ => none
  else bif Nat.beq f 15 then (match args with | [] => some (.bool true, H) | _ => none) else none
noncomputable def cxK : Cx Try.prog where
  good := goodT
  keep := keepT
  ext := extK
theorem cxK_ok : cxK.Ok where
  mixed := cx_ok.mixed
  ord := cx_ok.ord
  ext f args H v H' h := by
    have h0 : extK f args H = some (v, H') := h
    clear h
    unfold extK at h0
    rcases cond_some h0 with ⟨hf, h1⟩ | ⟨-, h1⟩
    all_goals clear h0
    · have hf := Nat.eq_of_beq_eq_true hf
      subst hf
      split at h1
      case h_2 => cases h1
      rename_i a b
      rcases cond_some h1 with ⟨hc, h⟩ | ⟨-, h⟩
      case inr => cases h
      have hc1 := (Bool.and_eq_true_iff.1 hc).1
      have hc2 := (Bool.and_eq_true_iff.1 hc).2
      rw [ieq_eq, beq_iff_eq] at hc1 hc2
      subst hc1
      subst hc2
      cases h
      exact count88.closed (.cons (.int _ _) (.cons (.int _ _) .nil)) (.tuple (.cons (.int _ _) (.cons (.int _ _) .nil))) _
    · rcases cond_some h1 with ⟨hf, h⟩ | ⟨-, h⟩
      all_goals clear h1
      · have hf := Nat.eq_of_beq_eq_true hf
        subst hf
        split at h
        · cases h
          exact works_ac _ _ ⟨rfl, rfl⟩
        · cases h
      · cases h
theorem known_run : runZ cxK 3000 14 [] [] = some (.bool true, []) := by kernel_rfl
theorem dockKnown_ac (H : AH) : AC Try.prog 14 [] H fun u _ => u = .bool true := AC_kernZ cxK_ok 3000 known_run .nil (.bool _) rfl
end Go.Proofs.Ytojblooaiojmcaa
