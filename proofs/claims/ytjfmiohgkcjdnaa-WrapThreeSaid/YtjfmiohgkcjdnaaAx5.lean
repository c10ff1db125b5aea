/- A plain reading of runs: a scope that is left without a jump. -/
import Derived.Test.YtjfmiohgkcjdnaaAxV
import Derived.Scope
namespace Go.Proofs.Ytjfmiohgkcjdnaa.AX
open Go Go.RowKit

section
variable {F : Fence} {n : Nat} {P : Program} {Q : Exit → Act → World → Prop} {a : Act} {w : World}
theorem stepR_scope {b : Frame} {a : Act} {k : List Item} {cs : List Frame} {w : World} {c : Code} : step P (lone (b.atR a (.code (.scope c) :: k)) cs w) = .next (lone (b.atR a (.code c :: .inScope c :: k)) cs w) :=
  step_lone_go (by simp [stepG, stepG.exec, Frame.atR])
theorem stepR_inScope {b : Frame} {a : Act} {k : List Item} {cs : List Frame} {w : World} {c : Code} : step P (lone (b.atR a (.inScope c :: k)) cs w) = .next (lone (b.atR a k) cs w) :=
  step_lone_go (by simp [stepG, stepG.exec, Frame.atR])
theorem wpIn_scope_straight {c : Code} (h : c.wpIn F n P (Exit.noGoto Q) a w) : (Code.scope c).wpIn F n P Q a w := by
  intro b k cs hro hb hr
  have h0 : (lone (b.atR a (.code (.scope c) :: k)) cs w).fenced P F := fenced_calm hb hr rfl
  obtain ⟨e, a₁, w₁, hq, harr⟩ := h b (.inScope c :: k) cs hro hb hr
  cases e with
  | normal => exact ⟨.normal, a₁, w₁, hq, .head h0 stepR_scope (StepsIn.trans harr (.one (fenced_calm hb hr rfl) stepR_inScope))⟩
  | exit id =>
    have hx : exitTo id (.inScope c :: k) = exitTo id k := by simp [exitTo]
    exact ⟨.exit id, a₁, w₁, hq, fun k' hk => .head h0 stepR_scope (harr.1 k' (by rw [hx]; exact hk)),
      fun hr' hk => let ⟨k₁, h1, h2⟩ := harr.2 hr' (by rw [hx]; exact hk); ⟨k₁, h1, .head h0 stepR_scope h2⟩⟩
  | goto l => exact hq.elim
  | ret => exact ⟨_, a₁, w₁, hq, .of_steps (.one h0 stepR_scope) harr⟩
  | panic ch => exact ⟨_, a₁, w₁, hq, .of_steps (.one h0 stepR_scope) harr⟩
  | outgrown => exact ⟨_, a₁, w₁, hq, .of_steps (.one h0 stepR_scope) harr⟩
end
section
variable {P : Program} {nt : Nat} {e : Env} {H : AH}
/-- No jump is left. -/
def NoJump (Q : Ex → Env → AH → Prop) : Ex → Env → AH → Prop
  | .goto _, _, _ => False
  | x, e, H => Q x e H
theorem AW_scope {c : Code} {Q : Ex → Env → AH → Prop} (h : AW P nt c e H (NoJump Q)) : AW P nt (.scope c) e H Q := fun ro base w0 σ w a ho S hr => by
  refine wpIn_scope_straight (wpIn_mono (h ro base w0 σ w a ho S hr) ?_)
  rintro ex a' w' ⟨x, σ', e', H', rfl, h2, h3, h4, hm, h5⟩
  cases x with
  | normal => exact ⟨.normal, σ', e', H', rfl, h2, h3, h4, hm, h5⟩
  | exit i => exact ⟨.exit i, σ', e', H', rfl, h2, h3, h4, hm, h5⟩
  | goto i => exact h5.elim
  | ret => exact ⟨.ret, σ', e', H', rfl, h2, h3, h4, hm, h5⟩
theorem L_scope {c : Code} {cs : List Code} {Q : Ex → Env → AH → Prop} (h : AWL P nt (flat c) e H (NoJump (More P nt cs Q))) : AWL P nt (.scope c :: cs) e H Q := AWL_cons (AW_scope (AW_of_flat h))
end
end Go.Proofs.Ytjfmiohgkcjdnaa.AX
