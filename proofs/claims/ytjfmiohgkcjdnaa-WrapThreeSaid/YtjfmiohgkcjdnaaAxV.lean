/- A plain reading of runs: a list of statements. -/
import Derived.Test.YtjfmiohgkcjdnaaAxU
namespace Go.Proofs.Ytjfmiohgkcjdnaa.AX
open Go Go.RowKit
section
variable {P : Program} {nt : Nat} {e : Env} {H : AH}

def flat : Code → List Code
  | .seq a b => flat a ++ flat b
  | .skip => []
  | .label _ => []
  | c => [c]

def AWL (P : Program) (nt : Nat) : List Code → Env → AH → (Ex → Env → AH → Prop) → Prop
  | [], e, H, Q => Q .normal e H
  | c :: cs, e, H, Q => AW P nt c e H fun x e' H' => match x with | .normal => AWL P nt cs e' H' Q | x => Q x e' H'

/-- What holds after a statement, when others follow. -/
def More (P : Program) (nt : Nat) (cs : List Code) (Q : Ex → Env → AH → Prop) : Ex → Env → AH → Prop
  | .normal, e, H => AWL P nt cs e H Q
  | x, e, H => Q x e H

theorem AWL_cons {c : Code} {cs : List Code} {Q : Ex → Env → AH → Prop} (h : AW P nt c e H (More P nt cs Q)) : AWL P nt (c :: cs) e H Q :=
  h.mono fun x e' H' hx => by cases x <;> exact hx
theorem AWL_uncons {c : Code} {cs : List Code} {Q : Ex → Env → AH → Prop} (h : AWL P nt (c :: cs) e H Q) : AW P nt c e H (More P nt cs Q) :=
  AW.mono h fun x e' H' hx => by cases x <;> exact hx

theorem AWL_flat : ∀ (c : Code) (cs : List Code) (e : Env) (H : AH) (Q : Ex → Env → AH → Prop), AWL P nt (flat c ++ cs) e H Q → AWL P nt (c :: cs) e H Q := by
  intro c
  induction c with
  | seq a b iha ihb =>
    intro cs e H Q h
    rw [flat, List.append_assoc] at h
    refine AWL_cons (AW_seq ?_)
    refine (AWL_uncons (iha _ _ _ _ h)).mono ?_
    intro x e' H' hx
    cases x with
    | normal => exact (AWL_uncons (ihb _ _ _ _ hx))
    | exit i => exact hx
    | goto i => exact hx
    | ret => exact hx
  | skip => intro cs e H Q h; exact AWL_cons (AW_skip h)
  | label l => intro cs e H Q h; exact AWL_cons (AW_label h)
  | region => intro cs e H Q h; exact h
  | cond => intro cs e H Q h; exact h
  | block => intro cs e H Q h; exact h
  | loop => intro cs e H Q h; exact h
  | exit => intro cs e H Q h; exact h
  | goto => intro cs e H Q h; exact h
  | ret => intro cs e H Q h; exact h
  | rangeFunc => intro cs e H Q h; exact h
  | scope => intro cs e H Q h; exact h
  | refuse => intro cs e H Q h; exact h

theorem AW_of_flat {c : Code} {Q : Ex → Env → AH → Prop} (h : AWL P nt (flat c) e H Q) : AW P nt c e H Q := by
  have := AWL_uncons (AWL_flat c [] e H Q (by rw [List.append_nil]; exact h))
  exact this.mono fun x e' H' hx => by cases x <;> exact hx

/-- A function's body. -/
theorem L_body {f : FuncId} {fn : Func} {c : Code} {args : List AV} (nt : Nat) {Q : AV → AH → Prop} (hf : P.funcs[f]? = some fn) (hb : fn.body = some c) (hnt : nt = max args.length fn.ntmps)
    (h : AWL P nt (flat c) (argsEnv 0 args) H fun x e' H' => (x = .normal ∨ x = .ret) ∧ ∃ v, aResults P fn e' H' = some v ∧ Q v H') : AC P f args H Q :=
  AC_of_body hf hb hnt (AW_of_flat h)

/-- The region that comes first. -/
theorem L_reg {id : Nat} {l : List Oper} {cs : List Code} {Q : Ex → Env → AH → Prop} (ks : List Nat) (h : ∀ K : Env → AH → Prop, (∀ e' H', AWL P nt cs e' H' Q → K e' H') → wpO P nt l.toArray l e H fun e H => K (ekeep ks e) H) : AWL P nt (.region id l.toArray false :: cs) e H Q :=
  AWL_cons (AW_region ks (wpO_sound (h (fun e' H' => AWL P nt cs e' H' Q) fun _e' _H' h => h)))
/-- One whose order is drawn. -/
theorem L_draw {id : Nat} {ops : Array Oper} {cs : List Code} {Q : Ex → Env → AH → Prop} (h : AW P nt (.region id ops true) e H (More P nt cs Q)) : AWL P nt (.region id ops true :: cs) e H Q := AWL_cons h
theorem L_block {id : Nat} {c : Code} {cs : List Code} {Q : Ex → Env → AH → Prop} (h : AWL P nt (flat c) e H (Out id (More P nt cs Q))) : AWL P nt (.block id c :: cs) e H Q := AWL_cons (AW_block (AW_of_flat h))
/-- A block, and what holds behind it. -/
theorem L_blockR {id : Nat} {c : Code} {cs : List Code} {Q : Ex → Env → AH → Prop} (R : Env → AH → Prop) (h : AWL P nt (flat c) e H (Out id fun x e' H' => match x with | .normal => R e' H' | x => Q x e' H')) (hout : ∀ e' H', R e' H' → AWL P nt cs e' H' Q) : AWL P nt (.block id c :: cs) e H Q :=
  AWL_cons ((AW_block (AW_of_flat h)).mono fun x e' H' hx => by
    cases x with
    | normal => exact hout _ _ hx
    | exit i => exact hx
    | goto i => exact hx
    | ret => exact hx)
theorem L_true {x : Operand} {c d : Code} {cs : List Code} {Q : Ex → Env → AH → Prop} (hc : oval e x = .bool true) (h : AWL P nt (flat c ++ cs) e H Q) : AWL P nt (.cond x c d :: cs) e H Q :=
  AWL_cons (AW_cond_true hc (AWL_uncons (AWL_flat _ _ _ _ _ h)))
theorem L_false {x : Operand} {c d : Code} {cs : List Code} {Q : Ex → Env → AH → Prop} (hc : oval e x = .bool false) (h : AWL P nt (flat d ++ cs) e H Q) : AWL P nt (.cond x c d :: cs) e H Q :=
  AWL_cons (AW_cond_false hc (AWL_uncons (AWL_flat _ _ _ _ _ h)))
theorem L_split {x : Operand} {c d : Code} {t : Bool} {cs : List Code} {Q : Ex → Env → AH → Prop} (hc : oval e x = .bool t) (h1 : t = true → AWL P nt (flat c ++ cs) e H Q) (h2 : t = false → AWL P nt (flat d ++ cs) e H Q) : AWL P nt (.cond x c d :: cs) e H Q := by
  cases t with
  | true => exact L_true hc (h1 rfl)
  | false => exact L_false hc (h2 rfl)
theorem L_dec {x : Operand} {c d : Code} (p : Prop) [Decidable p] {cs : List Code} {Q : Ex → Env → AH → Prop} (hc : oval e x = .bool (decide p)) (h1 : p → AWL P nt (flat c ++ cs) e H Q) (h2 : ¬ p → AWL P nt (flat d ++ cs) e H Q) : AWL P nt (.cond x c d :: cs) e H Q :=
  L_split hc (fun h => h1 (of_decide_eq_true h)) (fun h => h2 (of_decide_eq_false h))
theorem L_loop {c : Code} {cs : List Code} {Q : Ex → Env → AH → Prop} (I : Nat → Env → AH → Prop) (n0 : Nat) (h0 : I n0 e H)
    (round : ∀ n e H, I n e H → AWL P nt (flat c) e H fun x e' H' => match x with | .normal => ∃ n', n' < n ∧ I n' e' H' | x => More P nt cs Q x e' H') : AWL P nt (.loop c :: cs) e H Q :=
  AWL_cons (AW_loop I n0 h0 fun n e H h => AW_of_flat (round n e H h))
theorem L_exit {i : Nat} {cs : List Code} {Q : Ex → Env → AH → Prop} (h : Q (.exit i) e H) : AWL P nt (.exit i :: cs) e H Q := AWL_cons (AW_exit h)
theorem L_goto {i : Nat} {cs : List Code} {Q : Ex → Env → AH → Prop} (h : Q (.goto i) e H) : AWL P nt (.goto i :: cs) e H Q := AWL_cons (AW_goto h)
theorem L_ret {cs : List Code} {Q : Ex → Env → AH → Prop} (h : Q .ret e H) : AWL P nt (.ret :: cs) e H Q := AWL_cons (AW_ret h)
/-- A loop over a function. -/
theorem L_range (ks : List Nat) {g : Operand} {ps : Array Tmp} {a b : Code} {cs : List Code} {Q : Ex → Env → AH → Prop} {f : FuncId} {caps : List AV} (hg : oval e g = .func (.func f) [] caps) (hok : okFn P f = true)
    (h : AC P f (.yld H.length :: caps) (H ++ [.loop .ready .normal ⟨nt, ekeep ks e, ps, a, b⟩]) fun _ H' => ∃ s pe L, H'[H.length]? = some (.loop s pe L) ∧ s ≠ .busy ∧ More P nt cs Q pe (ekeep ks e) (H'.set H.length (.loop .exhausted pe L))) :
    AWL P nt (.rangeFunc g ps a b :: cs) e H Q := AWL_cons (AW_rangeFunc_keep ks hg hok h)
/-- A round. -/
theorem AYld_mk {r : Nat} {args : List AV} {K : AV → AH → Prop} {pe : Ex} {L : LR} (hrow : H[r]? = some (.loop .ready pe L)) (hl : args.length = L.ps.size) (hp : (L.ps.all fun p => decide (p < L.nt)) = true) (ha : L.assign = .skip)
    (h : AWL P L.nt (flat L.body) (psEnv L.ps.toList args L.e) (H.set r (.loop .busy pe L)) fun x2 _ H2 => ∃ s2 pe2 L2, H2[r]? = some (.loop s2 pe2 L2) ∧ K (.bool (decide (x2 = .normal))) (H2.set r (.loop (if x2 = .normal then .ready else .done) x2 L2))) : AYld P r args H K :=
  ⟨pe, L, hrow, hl, hp, by rw [ha]; exact AW_skip ⟨rfl, pe, L, hrow, AW_of_flat h⟩⟩
theorem AYld_mkA {r : Nat} {args : List AV} {K : AV → AH → Prop} {pe : Ex} {L : LR} (hrow : H[r]? = some (.loop .ready pe L)) (hl : args.length = L.ps.size) (hp : (L.ps.all fun p => decide (p < L.nt)) = true)
    (h : AWL P L.nt (flat L.assign) (psEnv L.ps.toList args L.e) H fun x e1 H1 => x = .normal ∧ ∃ pe1 L1, H1[r]? = some (.loop .ready pe1 L1) ∧
      AWL P L.nt (flat L.body) e1 (H1.set r (.loop .busy pe1 L1)) fun x2 _ H2 => ∃ s2 pe2 L2, H2[r]? = some (.loop s2 pe2 L2) ∧ K (.bool (decide (x2 = .normal))) (H2.set r (.loop (if x2 = .normal then .ready else .done) x2 L2))) : AYld P r args H K :=
  ⟨pe, L, hrow, hl, hp, (AW_of_flat h).mono fun x e1 H1 ⟨g1, pe1, L1, g2, g3⟩ => ⟨g1, pe1, L1, g2, AW_of_flat g3⟩⟩
theorem AYld.mono {r : Nat} {args : List AV} {K K' : AV → AH → Prop} (h : AYld P r args H K) (hk : ∀ v H', K v H' → K' v H') : AYld P r args H K' := by
  obtain ⟨pe, L, h1, h2, h3, h4⟩ := h
  exact ⟨pe, L, h1, h2, h3, h4.mono fun x e1 H1 ⟨g1, pe1, L1, g2, g3⟩ => ⟨g1, pe1, L1, g2, g3.mono fun x2 e2 H2 ⟨s2, pe2, L2, k1, k2⟩ => ⟨s2, pe2, L2, k1, hk _ _ k2⟩⟩⟩
end
end Go.Proofs.Ytjfmiohgkcjdnaa.AX
