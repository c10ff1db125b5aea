/- The examples of the chapter. -/
import Derived.Test.YtjldfcfomiopfaaDoorWorks
namespace Go.Proofs.YtjldfcfomiopfaaDoor
open Go Go.Proofs.YtjldfcfomiopfaaDoor.AX
noncomputable def worksX (args : List AV) (H : AH) : Option (AV × AH) :=
  match args with
  | [] => match gfind H 0 with
    | some [.int .i64 (.ofNat 24), .int .i64 (.ofNat 24)] => some (.bool true, H)
    | _ => none
  | _ => none
theorem worksX_ok {args : List AV} {H : AH} {v : AV} {H' : AH} (h : worksX args H = some (v, H')) : AC Tryd.prog 16 args H fun v' H2 => v' = v ∧ H2 = H' := by
  unfold worksX at h
  split at h
  case h_2 => cases h
  split at h
  case h_2 => cases h
  rename_i hg
  cases h
  refine works_ac _ _ ?_ ⟨rfl, rfl⟩
  intro x hx
  simp only [gs, List.mem_singleton] at hx
  subst hx
  exact ⟨hg, .cons (.int _ _) (.cons (.int _ _) .nil)⟩
noncomputable def cxw : Cx Tryd.prog where
  good := goodT
  keep := keepT
  ext f args H := bif Nat.beq f 16 then worksX args H else cxp.ext f args H
theorem cxw_ok : cxw.Ok where
  mixed := cx_ok.mixed
  ord f h := cx_ok.ord f h
  ext f args H v H' h := by
    simp only [cxw] at h
    cases hf : Nat.beq f 16 with
    | true =>
      have := Nat.eq_of_beq_eq_true hf
      subst this
      rw [hf] at h
      exact worksX_ok h
    | false => rw [hf] at h; exact cxp_ok.ext _ _ _ _ _ h
theorem known_run : runZ cxw 3000 14 [] (gRows gs) = some (.bool true, gRows gs) := by kernel_rfl
theorem heapKnown_ac (H : AH) (hg : HasG gs H) : AC Tryd.prog 14 [] H fun u _ => u = .bool true := AC_kernG cxw_ok 3000 gs hg known_run .nil (.bool _) rfl
end Go.Proofs.YtjldfcfomiopfaaDoor
