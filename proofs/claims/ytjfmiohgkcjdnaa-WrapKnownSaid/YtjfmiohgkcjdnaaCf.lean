/- The examples of the chapter. -/
import Derived.Test.YtjfmiohgkcjdnaaCe
namespace Go.Proofs.Ytjfmiohgkcjdnaa
open Go Go.Proofs.Ytjfmiohgkcjdnaa.AX
noncomputable def cxk : Cx Try.prog where
  good := goodT
  keep := keepT
  ext f args H := bif Nat.beq f 28 then (match args with | [] => some (.bool true, H) | _ => none) else bif Nat.beq f 78 then
    (match args with
    | [.agg [.int .i64 (.ofNat m), .int .i64 (.ofNat s), .int .i64 (.ofNat t)]] => bif okW m s t then some (.bool (Nat.ble (widthsS m s t).length 2), H) else none
    | _ => none) else extW f args H
theorem cxk_ok : cxk.Ok where
  mixed := cx_ok.mixed
  ord f h := cx_ok.ord f h
  ext f args H v H' h := by
    simp only [cxk] at h
    cases hf : Nat.beq f 28 with
    | true =>
      have := Nat.eq_of_beq_eq_true hf
      subst this
      rw [hf] at h
      cases args with
      | nil => simp at h; obtain ⟨rfl, rfl⟩ := h; exact works_ac _ _ ⟨rfl, rfl⟩
      | cons a l => simp at h
    | false =>
      rw [hf] at h
      simp only [cond_false] at h
      cases h3 : Nat.beq f 78 with
      | false => rw [h3] at h; exact extW_ok f args H v H' h
      | true =>
        have := Nat.eq_of_beq_eq_true h3
        subst this
        rw [h3] at h
        simp only [cond_true] at h
        split at h
        · rename_i m s t
          cases h2 : okW m s t with
          | false => rw [h2] at h; cases h
          | true =>
            rw [h2] at h
            simp only [cond_true, Option.some.injEq, Prod.mk.injEq] at h
            obtain ⟨rfl, rfl⟩ := h
            obtain ⟨a1, a2, a3, a4, a5⟩ := okW_ok h2
            refine even_ac m s t a1 a2 a3 a5 _ _ ⟨?_, rfl⟩
            congr 1
            rw [Bool.eq_iff_iff, decide_eq_true_eq, Nat.ble_eq]
        · cases h
theorem known_run : callN (runZ cxk 3000) 15 [] [] = some (.bool true, []) := by kernel_rfl
theorem wrapKnown_ac (H : AH) : AC Try.prog 15 [] H fun u _ => u = .bool true := AC_kernZ cxk_ok 3000 known_run .nil (.bool _) rfl
end Go.Proofs.Ytjfmiohgkcjdnaa
