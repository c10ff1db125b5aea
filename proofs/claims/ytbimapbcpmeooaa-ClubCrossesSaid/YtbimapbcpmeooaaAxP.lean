/- A plain reading of runs (P). -/
import Derived.Test.YtbimapbcpmeooaaAxN
/- A plain reading of runs: a quicker reckoning. -/
namespace Go.Proofs.Ytbimapbcpmeooaa.AX
open Go Go.RowKit

def EqE (e e' : Env) : Prop := ∀ t, eget e t = eget e' t
theorem EqE.refl (e : Env) : EqE e e := fun _ => rfl
theorem EqE.trans {a b c : Env} (h : EqE a b) (k : EqE b c) : EqE a c := fun t => (h t).trans (k t)
theorem EqE.symm {a b : Env} (h : EqE a b) : EqE b a := fun t => (h t).symm
theorem ERel.eqE {σ : Inj} {nt : Nat} {e e' : Env} {a : Act} (h : ERel σ nt e a) (he : EqE e e') : ERel σ nt e' a := ⟨h.1, h.2.1, fun t => by rw [← he t]; exact h.2.2 t⟩

section
variable {P : Program} {nt : Nat}
theorem AW.eqE {c : Code} {e e' : Env} {H : AH} {Q : Ex → Env → AH → Prop} (he : EqE e e') (h : AW P nt c e' H Q) : AW P nt c e H Q := fun ro base w0 σ w a ho S hr => h ro base w0 σ w a ho S (hr.eqE he)
theorem AO.eqE {ops : Array Oper} {l : List Oper} {e e' : Env} {H : AH} {Q : Env → AH → Prop} (he : EqE e e') (h : AO P nt ops l e' H Q) : AO P nt ops l e H Q := fun ro base w0 σ w a ho S hr => h ro base w0 σ w a ho S (hr.eqE he)
end

def putC (e : Env) (d : Option Tmp) (v : AV) : Env := match d with | none => e | some t => (t, v) :: e
theorem eget_putC (e : Env) (d : Option Tmp) (v : AV) (t : Nat) : eget (putC e d v) t = if d = some t then v else eget e t := by
  cases d with
  | none => simp [putC]
  | some s => simp [putC, eget]
theorem putC_eq (e : Env) (d : Option Tmp) (v : Option AV) : EqE (putDst e d v) (putC e d (v.getD .undef)) := fun t => by
  rw [eget_putC, eget_putDst]
theorem putC_cong {e e' : Env} (h : EqE e e') (d : Option Tmp) (v : AV) : EqE (putC e d v) (putC e' d v) := fun t => by
  rw [eget_putC, eget_putC, h t]

/-- A number, reckoned before it is used. -/
noncomputable def forceN {α : Type} (n : Nat) (k : Nat → α) : α := Nat.rec (k 0) (fun m _ => k (Nat.succ m)) n
theorem forceN_eq {α : Type} (n : Nat) (k : Nat → α) : forceN n k = k n := by cases n <;> rfl
noncomputable def forceI {α : Type} (n : Int) (k : Int → α) : α := Int.rec (fun m => forceN m fun m => k (.ofNat m)) (fun m => forceN m fun m => k (.negSucc m)) n
theorem forceI_eq {α : Type} (n : Int) (k : Int → α) : forceI n k = k n := by
  cases n with
  | ofNat m => exact forceN_eq m fun m => k (.ofNat m)
  | negSucc m => exact forceN_eq m fun m => k (.negSucc m)
noncomputable def forceV {α : Type} (v : AV) (k : AV → α) : α :=
  @AV.rec (fun _ => α) (fun _ => Unit) (k .undef) (fun b => Bool.rec (k (.bool false)) (k (.bool true)) b) (fun t n => forceI n fun n => k (.int t n)) (fun _ => k v) (k v) (fun r off ver => forceN r fun r => forceN off fun off => forceN ver fun ver => k (.ptr r off ver))
    (fun r off len ver sz full => forceN off fun off => forceN len fun len => forceN ver fun ver => k (.slice r off len ver sz full)) (k v) (fun _ => k v) (k v) (fun _ _ _ _ _ => k v) (k v) (fun _ _ _ => k v) (fun _ _ => k v) (fun _ _ => k v) (fun g off => forceN off fun off => k (.gptr g off)) (fun r off len ver sz => forceN off fun off => forceN len fun len => k (.clip r off len ver sz)) (fun r => forceN r fun r => k (.yld r)) (fun r off len ver sz => forceN off fun off => forceN len fun len => k (.part r off len ver sz)) (fun r => forceN r fun r => k (.iter r)) () (fun _ _ _ _ => ()) v
theorem forceV_eq {α : Type} (v : AV) (k : AV → α) : forceV v k = k v := by
  cases v with
  | int t n => exact forceI_eq n fun n => k (.int t n)
  | bool b => cases b <;> rfl
  | slice r off len ver sz full => simp only [forceV, forceN_eq]
  | ptr r off ver => simp only [forceV, forceN_eq]
  | gptr g off => simp only [forceV, forceN_eq]
  | clip r off len ver sz => simp only [forceV, forceN_eq]
  | yld r => simp only [forceV, forceN_eq]
  | iter r => simp only [forceV, forceN_eq]
  | part r off len ver sz => simp only [forceV, forceN_eq]
  | _ => rfl

noncomputable def runO (P : Program) (call : Caller) (nt : Nat) (ops : Array Oper) (l : List Oper) : Env → AH → Option (Env × AH) :=
  List.rec (fun e H => some (e, H)) (fun o _ ih e H =>
    match wantedA ops e o with
    | none => none
    | some false => ih (putC e o.dst .undef) H
    | some true =>
      bif dstOk nt o.dst then
        bif isFnCall o.op then
          match opYld (oval e) o.op with
          | some (r, args) =>
            match call (1000000 + r) args H with
            | none => none
            | some (v, H1) => forceV v fun v => ih (putC e o.dst v) H1
          | none =>
          match opCall P (oval e) o.op with
          | none => none
          | some (f, args) =>
            match callN call f args H with
            | none => none
            | some (v, H1) => forceV v fun v => ih (putC e o.dst v) H1
        else
          match execN P (oval e) H o.op with
          | none => none
          | some (some v, H1) => forceV v fun v => ih (putC e o.dst v) H1
          | some (none, H1) => ih (putC e o.dst .undef) H1
      else none) l

theorem runO_cons {P : Program} {call : Caller} {nt : Nat} {ops : Array Oper} {o : Oper} {l : List Oper} {e : Env} {H : AH} : runO P call nt ops (o :: l) e H =
    match wantedA ops e o with
    | none => none
    | some false => runO P call nt ops l (putC e o.dst .undef) H
    | some true =>
      bif dstOk nt o.dst then
        bif isFnCall o.op then
          match opYld (oval e) o.op with
          | some (r, args) =>
            match call (1000000 + r) args H with
            | none => none
            | some (v, H1) => forceV v fun v => runO P call nt ops l (putC e o.dst v) H1
          | none =>
          match opCall P (oval e) o.op with
          | none => none
          | some (f, args) =>
            match callN call f args H with
            | none => none
            | some (v, H1) => forceV v fun v => runO P call nt ops l (putC e o.dst v) H1
        else
          match execN P (oval e) H o.op with
          | none => none
          | some (some v, H1) => forceV v fun v => runO P call nt ops l (putC e o.dst v) H1
          | some (none, H1) => runO P call nt ops l (putC e o.dst .undef) H1
      else none := rfl

noncomputable def anyW (ops : List Oper) : Bool := List.rec false (fun o _ ih => bif isW o.op then true else bif isFnCall o.op then true else ih) ops

/-- Each read is in order with each write. -/
def drawS (ops : Array Oper) : Bool :=
  ordOK ops && (let ms := masks ops.toList []; ops.toList.zipIdx.all fun x => !isR x.1.op || ops.toList.zipIdx.all fun y => !isW y.1.op || anc ms x.2 y.2 || anc ms y.2 x.2)

noncomputable def slowD (ops : Array Oper) : Bool := bif anyW ops.toList then !drawS ops else false
theorem slowD_false {ops : Array Oper} (h : slowD ops = false) : anyW ops.toList = false ∨ drawS ops = true := by
  unfold slowD at h
  cases ha : anyW ops.toList with
  | false => exact .inl rfl
  | true => rw [ha] at h; simp at h; exact .inr h


noncomputable def runK (P : Program) (ks : List Nat) (call : Caller) (nt : Nat) (n : Nat) : Code → Env → AH → Option (Ex × Env × AH) :=
  Nat.rec (fun _ _ _ => none) (fun _ ih c e H =>
    match c with
    | .skip | .label _ => some (.normal, e, H)
    | .region _ ops draw =>
      bif draw && slowD ops then
        match runOps P (callN call) nt ops ops.toList e H with
        | none => none
        | some (tr, e', H') => bif readsB P ops tr then some (.normal, e', H') else none
      else match runO P (bif draw then callN call else call) nt ops ops.toList e H with
        | none => none
        | some (e', H') => some (.normal, e', H')
    | .seq a b =>
      match ih a e H with
      | some (.normal, e, H) => ih b e H
      | r => r
    | .cond x a b =>
      match oval e x with
      | .bool true => ih a e H
      | .bool false => ih b e H
      | _ => none
    | .block i a =>
      match ih a e H with
      | some (.exit j, e, H) => bif Nat.beq j i then some (.normal, e, H) else some (.exit j, e, H)
      | r => r
    | .loop a =>
      match ih a (ekeep ks e) H with
      | some (.normal, e, H) => ih (.loop a) e H
      | r => r
    | .exit i => some (.exit i, e, H)
    | .goto l => some (.goto l, e, H)
    | .ret => some (.ret, e, H)
    | .rangeFunc g ps a b =>
      match oval e g with
      | .func (.func f) [] caps =>
        bif okFn P f then
          match callN call f (.yld H.length :: caps) (H ++ [.loop .ready .normal ⟨nt, ekeep ks e, ps, a, b⟩]) with
          | some (_, H') =>
            match H'[H.length]? with
            | some (.loop s pe L) => match s with
              | .busy => none
              | _ => some (pe, ekeep ks e, H'.set H.length (.loop .exhausted pe L))
            | _ => none
          | none => none
        else none
      | _ => none
    | _ => none) n

theorem runK_succ {P : Program} {ks : List Nat} {call : Caller} {nt n : Nat} {c : Code} {e : Env} {H : AH} : runK P ks call nt (n + 1) c e H =
    match c with
    | .skip | .label _ => some (.normal, e, H)
    | .region _ ops draw =>
      bif draw && slowD ops then
        match runOps P (callN call) nt ops ops.toList e H with
        | none => none
        | some (tr, e', H') => bif readsB P ops tr then some (.normal, e', H') else none
      else match runO P (bif draw then callN call else call) nt ops ops.toList e H with
        | none => none
        | some (e', H') => some (.normal, e', H')
    | .seq a b =>
      match runK P ks call nt n a e H with
      | some (.normal, e, H) => runK P ks call nt n b e H
      | r => r
    | .cond x a b =>
      match oval e x with
      | .bool true => runK P ks call nt n a e H
      | .bool false => runK P ks call nt n b e H
      | _ => none
    | .block i a =>
      match runK P ks call nt n a e H with
      | some (.exit j, e, H) => bif Nat.beq j i then some (.normal, e, H) else some (.exit j, e, H)
      | r => r
    | .loop a =>
      match runK P ks call nt n a (ekeep ks e) H with
      | some (.normal, e, H) => runK P ks call nt n (.loop a) e H
      | r => r
    | .exit i => some (.exit i, e, H)
    | .goto l => some (.goto l, e, H)
    | .ret => some (.ret, e, H)
    | .rangeFunc g ps a b =>
      match oval e g with
      | .func (.func f) [] caps =>
        bif okFn P f then
          match callN call f (.yld H.length :: caps) (H ++ [.loop .ready .normal ⟨nt, ekeep ks e, ps, a, b⟩]) with
          | some (_, H') =>
            match H'[H.length]? with
            | some (.loop s pe L) => match s with
              | .busy => none
              | _ => some (pe, ekeep ks e, H'.set H.length (.loop .exhausted pe L))
            | _ => none
          | none => none
        else none
      | _ => none
    | _ => none := rfl

noncomputable def runG {P : Program} (C : Cx P) (n : Nat) : Caller :=
  Nat.rec (fun _ _ _ => none) (fun n ih f args H =>
    bif Nat.ble f 999999 then
    match C.ext f args H with
    | some r => some r
    | none =>
      bif C.good f then
        match P.funcs[f]? with
        | none => none
        | some fn =>
          match fn.body with
          | none => none
          | some c =>
            match runK P (C.keep f) ih (max args.length fn.ntmps) n c (argsEnv 0 args) H with
            | some (.normal, e, H') | some (.ret, e, H') =>
              match aResults P fn e H' with
              | some v => bif Nat.beq H.length H'.length then some (v, H') else bif prefB H.length H' then some (finish H.length H' v) else some (v, H')
              | none => none
            | _ => none
      else none
    else
    match H[f - 1000000]? with
    | some (.loop .ready _ L) =>
      bif Nat.beq args.length L.ps.size && ((L.ps.all fun p => decide (p < L.nt)) && (codeOrd L.assign && codeOrd L.body)) then
        match runK P (List.range L.nt) ih L.nt n L.assign (psEnv L.ps.toList args L.e) H with
        | some (.normal, e1, H1) =>
          match H1[f - 1000000]? with
          | some (.loop .ready pe1 L1) =>
            match runK P (List.range L.nt) ih L.nt n L.body e1 (H1.set (f - 1000000) (.loop .busy pe1 L1)) with
            | some (x2, _, H2) =>
              match H2[f - 1000000]? with
              | some (.loop _ _ L2) => some (.bool (decide (x2 = .normal)), H2.set (f - 1000000) (.loop (if x2 = .normal then .ready else .done) x2 L2))
              | _ => none
            | none => none
          | _ => none
        | _ => none
      else none
    | _ => none) n

theorem runG_succ {P : Program} {C : Cx P} {n : Nat} {f : FuncId} {args : List AV} {H : AH} : runG C (n + 1) f args H =
    bif Nat.ble f 999999 then
    match C.ext f args H with
    | some r => some r
    | none =>
      bif C.good f then
        match P.funcs[f]? with
        | none => none
        | some fn =>
          match fn.body with
          | none => none
          | some c =>
            match runK P (C.keep f) (runG C n) (max args.length fn.ntmps) n c (argsEnv 0 args) H with
            | some (.normal, e, H') | some (.ret, e, H') =>
              match aResults P fn e H' with
              | some v => bif Nat.beq H.length H'.length then some (v, H') else bif prefB H.length H' then some (finish H.length H' v) else some (v, H')
              | none => none
            | _ => none
      else none
    else
    match H[f - 1000000]? with
    | some (.loop .ready _ L) =>
      bif Nat.beq args.length L.ps.size && ((L.ps.all fun p => decide (p < L.nt)) && (codeOrd L.assign && codeOrd L.body)) then
        match runK P (List.range L.nt) (runG C n) L.nt n L.assign (psEnv L.ps.toList args L.e) H with
        | some (.normal, e1, H1) =>
          match H1[f - 1000000]? with
          | some (.loop .ready pe1 L1) =>
            match runK P (List.range L.nt) (runG C n) L.nt n L.body e1 (H1.set (f - 1000000) (.loop .busy pe1 L1)) with
            | some (x2, _, H2) =>
              match H2[f - 1000000]? with
              | some (.loop _ _ L2) => some (.bool (decide (x2 = .normal)), H2.set (f - 1000000) (.loop (if x2 = .normal then .ready else .done) x2 L2))
              | _ => none
            | none => none
          | _ => none
        | _ => none
      else none
    | _ => none := rfl

section
variable {P : Program} {nt : Nat} {ops : Array Oper} {call : Caller}

theorem runO_sound (hc : CallOk P (callN call)) (hy : CallY P call) : ∀ {l : List Oper} {e e' : Env} {H H' : AH}, runO P call nt ops l e H = some (e', H') → AO P nt ops l e H fun e2 H2 => EqE e2 e' ∧ H2 = H'
  | [], e, e', H, H', h => by
    have : (some (e, H) : Option (Env × AH)) = some (e', H') := h
    cases this
    exact AO_nil ⟨.refl _, rfl⟩
  | o :: rest, e, e', H, H', h => by
    rw [runO_cons] at h
    split at h
    · cases h
    · rename_i hw
      exact AO_skip hw ((runO_sound hc hy h).eqE (putC_eq e o.dst none))
    · rename_i hw
      cases hd : dstOk nt o.dst with
      | false => rw [hd] at h; cases h
      | true =>
        rw [hd] at h
        simp only [cond_true] at h
        cases hf : isFnCall o.op with
        | true =>
          rw [hf] at h
          simp only [cond_true] at h
          split at h
          · rename_i r args hcall
            split at h
            · cases h
            · rename_i v H1 hv
              rw [forceV_eq] at h
              obtain ⟨pe, L, q1, q2, q3, q4⟩ := hy _ _ _ _ _ hv
              refine AO_yield hw hcall hd ⟨pe, L, q1, q2, q3, q4.mono ?_⟩
              rintro x e1 H2 ⟨rfl, pe1, L1, q5, q6⟩
              refine ⟨rfl, pe1, L1, q5, q6.mono ?_⟩
              rintro x2 e2 H3 ⟨s2, pe2, L2, q7, q8, q9⟩
              refine ⟨s2, pe2, L2, q7, ?_⟩
              rw [q8, q9]
              exact (runO_sound hc hy h).eqE (putC_eq e o.dst (some _))
          split at h
          case h_1 => cases h
          rename_i f args hcall
          split at h
          case h_1 => cases h
          rename_i v H1 hv
          rw [forceV_eq] at h
          refine AO_call hw hcall hd ((hc _ _ _ _ _ hv).mono ?_)
          rintro v' H2 ⟨rfl, rfl⟩
          exact (runO_sound hc hy h).eqE (putC_eq e o.dst (some _))
        | false =>
          rw [hf] at h
          simp only [cond_false] at h
          split at h
          · cases h
          · rename_i v H1 hv
            rw [forceV_eq] at h
            exact AO_op hw hv hd ((runO_sound hc hy h).eqE (putC_eq e o.dst (some v)))
          · rename_i H1 hv
            exact AO_op hw hv hd ((runO_sound hc hy h).eqE (putC_eq e o.dst none))

theorem wantedA_eqE {e e' : Env} (h : EqE e e') (o : Oper) : wantedA ops e o = wantedA ops e' o := by
  unfold wantedA
  split
  · rfl
  · split
    · rfl
    · rw [h]

theorem oval_eqE {e e' : Env} (h : EqE e e') : oval e = oval e' := by
  funext x
  cases x with
  | tmp t => exact h t
  | _ => rfl

theorem anyW_cons {o : Oper} {l : List Oper} : anyW (o :: l) = bif isW o.op then true else bif isFnCall o.op then true else anyW l := rfl
theorem anyW_false : ∀ {l : List Oper}, anyW l = false → ∀ o ∈ l, isW o.op = false ∧ isFnCall o.op = false
  | [], _, o, ho => by cases ho
  | p :: l, h, o, ho => by
    rw [anyW_cons] at h
    cases h1 : isW p.op <;> cases h2 : isFnCall p.op <;> simp [h1, h2] at h
    rcases List.mem_cons.1 ho with rfl | ho
    · exact ⟨h1, h2⟩
    · exact anyW_false h o ho

/-- A run is a trace. -/
theorem runO_trace (hc : CallOk P (callN call)) : ∀ {l : List Oper} {e e1 e' : Env} {H H' : AH}, EqE e1 e → runO P (callN call) nt ops l e H = some (e', H') → ∃ tr e2, Trace P nt ops l e1 H tr e2 H' ∧ EqE e2 e'
  | [], e, e1, e', H, H', he, h => by
    have : (some (e, H) : Option (Env × AH)) = some (e', H') := h
    cases this
    exact ⟨[], e1, .nil _ _, he⟩
  | o :: rest, e, e1, e', H, H', he, h => by
    rw [runO_cons] at h
    have hE : ∀ v : Option AV, EqE (putDst e1 o.dst v) (putC e o.dst (v.getD .undef)) := fun v => (putC_eq e1 o.dst v).trans (putC_cong he _ _)
    split at h
    · cases h
    · rename_i hw
      obtain ⟨tr, e2, h1, h2⟩ := runO_trace hc (hE none) h
      exact ⟨_, e2, .skip (by rw [wantedA_eqE he]; exact hw) h1, h2⟩
    · rename_i hw
      cases hd : dstOk nt o.dst with
      | false => rw [hd] at h; cases h
      | true =>
        rw [hd] at h
        have ho := oval_eqE he
        cases hf : isFnCall o.op with
        | true =>
          rw [hf] at h
          simp only [cond_true, callN_idem] at h
          split at h
          · rename_i r args hcall
            rw [callN_y] at h
            cases h
          split at h
          · cases h
          · rename_i f args hcall
            split at h
            case h_1 => cases h
            rename_i v H1 hv
            rw [forceV_eq] at h
            obtain ⟨tr, e2, h1, h2⟩ := runO_trace hc (hE (some v)) h
            exact ⟨_, e2, .call (by rw [wantedA_eqE he]; exact hw) (by rw [ho]; exact hcall) hd (hc _ _ _ _ _ hv) h1, h2⟩
        | false =>
          rw [hf] at h
          simp only [cond_true, cond_false] at h
          split at h
          · cases h
          · rename_i v H1 hv
            rw [forceV_eq] at h
            obtain ⟨tr, e2, h1, h2⟩ := runO_trace hc (hE (some v)) h
            exact ⟨_, e2, .op (by rw [wantedA_eqE he]; exact hw) (by rw [ho]; exact hv) hd h1, h2⟩
          · rename_i H1 hv
            obtain ⟨tr, e2, h1, h2⟩ := runO_trace hc (hE none) h
            exact ⟨_, e2, .op (by rw [wantedA_eqE he]; exact hw) (by rw [ho]; exact hv) hd h1, h2⟩

theorem readsOK_of_drawS (h : drawS ops = true) (tr : List Rec) : readsOK P ops tr := by
  intro i j o p r s ho hp hr hs hR hW hw h1 h2
  simp only [drawS, Bool.and_eq_true, List.all_eq_true, Bool.or_eq_true, Bool.not_eq_true'] at h
  have mem : ∀ (i : Nat) (o : Oper), ops[i]? = some o → (o, i) ∈ ops.toList.zipIdx := by
    intro i o ho
    rw [List.mk_mem_zipIdx_iff_getElem?, Array.getElem?_toList]; exact ho
  rcases h.2 _ (mem i o ho) with h3 | h3
  · rw [hR] at h3; cases h3
  · rcases h3 _ (mem j p hp) with (h4 | h4) | h4
    · rw [hW] at h4; cases h4
    · rw [h1] at h4; cases h4
    · rw [h2] at h4; cases h4

theorem runK_sound (hm : P.follows .mixedOrders = true) (hc : CallOk P (callN call)) (hy : CallY P call) {ks : List Nat} : ∀ (n : Nat) (c : Code) (e : Env) (H : AH) (x : Ex) (e' : Env) (H' : AH), codeOrd c = true → runK P ks call nt n c e H = some (x, e', H') →
    AW P nt c e H fun x2 e2 H2 => x2 = x ∧ EqE e2 e' ∧ H2 = H' := by
  intro n
  induction n using Nat.strongRecOn with
  | _ n0 ih0 =>
    intro c e H x e' H' ho h
    cases n0 with
    | zero => cases h
    | succ n =>
    have ih := ih0 n (by omega)
    rw [runK_succ] at h
    cases c with
    | skip => simp only [] at h; cases h; exact AW_skip ⟨rfl, .refl _, rfl⟩
    | label l => simp only [] at h; cases h; exact AW_label ⟨rfl, .refl _, rfl⟩
    | exit l => simp only [] at h; cases h; exact AW_exit ⟨rfl, .refl _, rfl⟩
    | goto l => simp only [] at h; cases h; exact AW_goto ⟨rfl, .refl _, rfl⟩
    | ret => simp only [] at h; cases h; exact AW_ret ⟨rfl, .refl _, rfl⟩
    | rangeFunc g ps a b =>
      simp only [] at h
      have hkeep : ∀ {c : Code} {e1 : Env} {H1 : AH} {Q : Ex → Env → AH → Prop}, AW P nt c (ekeep ks e1) H1 Q → AW P nt c e1 H1 Q := fun h ro base w0 σ w a ho S hr => h ro base w0 σ w a ho S (hr.keep ks)
      split at h
      case h_2 => cases h
      rename_i f caps hg
      cases hok : okFn P f with
      | false => rw [hok] at h; cases h
      | true =>
      rw [hok] at h
      simp only [cond_true] at h
      split at h
      case h_2 => cases h
      rename_i v H1 hcall
      split at h
      case h_2 => cases h
      rename_i s pe L hrow
      have hq : s ≠ .busy ∧ (pe, ekeep ks e, H1.set H.length (.loop .exhausted pe L)) = (x, e', H') := by
        cases s <;> simp only [] at h <;> first | (cases h; done) | exact ⟨by simp, Option.some.inj h⟩
      obtain ⟨hs, hq⟩ := hq
      cases hq
      have hge : oval e g = .func (.func f) [] caps := hg
      intro ro base w0 σ w a0 hro S hr
      exact (AW_rangeFunc_keep ks hge hok ((hc _ _ _ _ _ hcall).mono fun v' H2 ⟨h1, h2⟩ => ⟨s, x, L, by rw [h2]; exact hrow, hs, rfl, .refl _, by rw [h2]⟩)) ro base w0 σ w a0 hro S hr
    | scope => simp at h
    | refuse => simp at h
    | region id ops draw =>
      simp only [] at h
      have keepAll : ∀ e2 : Env, EqE (ekeep (e2.map Prod.fst) e2) e2 := by
        have : ∀ (ks : List Nat) (e2 : Env), (∀ x ∈ e2, ks.contains x.1 = true) → ekeep ks e2 = e2 := by
          intro ks e2
          induction e2 with
          | nil => intro _; rfl
          | cons y e2 ih =>
            intro hy
            obtain ⟨k, u⟩ := y
            simp only [ekeep]
            rw [if_pos (hy (k, u) (by simp)), ih (fun x hx => hy x (by simp [hx]))]
        intro e2
        rw [this _ _ (fun x hx => by rw [List.contains_iff_mem]; exact List.mem_map_of_mem hx)]
        exact .refl _
      have hreg : draw = false → ∀ {Q : Ex → Env → AH → Prop}, (AO P nt ops ops.toList e H fun e2 H2 => EqE e2 e' ∧ H2 = H' ) → x = .normal → AW P nt (.region id ops draw) e H fun x2 e2 H2 => x2 = x ∧ EqE e2 e' ∧ H2 = H' := by
        rintro rfl Q hao rfl
        have key : ∀ {Q : Env → AH → Prop}, AO P nt ops ops.toList e H Q → AW P nt (.region id ops false) e H fun x2 e2 H2 => x2 = .normal ∧ Q e2 H2 := by
          intro Q h ro base w0 σ w a hro S hr
          refine wpIn_region_list (wpListIn_mono ?_ _ _ _ (h ro base w0 σ w a hro S hr))
          rintro ex a' w' ⟨x, σ', e', H', rfl, h2, h3, h4, hmk, rfl, h5⟩
          exact ⟨.normal, σ', _, H', rfl, h2, h3, h4, hmk, rfl, h5⟩
        exact (key hao).mono fun x2 e2 H2 ⟨h1, h2, h3⟩ => ⟨h1, h2, h3⟩
      cases draw with
      | false =>
        simp only [Bool.false_and, cond_false] at h
        split at h
        · cases h
        · rename_i e1 H1 hr
          cases h
          exact hreg rfl (Q := fun _ _ _ => True) (runO_sound hc hy hr) rfl
      | true =>
        simp only [codeOrd, Bool.not_true, Bool.false_or] at ho
        cases hw : slowD ops with
        | true =>
          simp only [hw, Bool.and_self, cond_true] at h
          split at h
          · cases h
          · rename_i tr e1 H1 hr
            have hT := runOps_trace hc hr
            cases hb : readsB P ops tr with
            | false => rw [hb] at h; cases h
            | true =>
              rw [hb] at h
              cases h
              exact AW_draw hm (e'.map Prod.fst) hT ⟨ho, readsB_ok hT.length hb⟩ ⟨rfl, keepAll _, rfl⟩
        | false =>
          simp only [hw, Bool.and_false, cond_false, cond_true] at h
          split at h
          · cases h
          · rename_i e1 H1 hr
            cases h
            obtain ⟨tr, e2, hT, he⟩ := runO_trace hc (.refl e) hr
            refine AW_draw hm (e2.map Prod.fst) hT ⟨ho, ?_⟩ ⟨rfl, (keepAll _).trans he, rfl⟩
            rcases slowD_false hw with hw | hw
            · have hW := anyW_false hw
              intro i j o p r s hoi hpj hri hsj hR hWp
              have hp : p ∈ ops.toList := List.mem_of_getElem? (i := j) (by rw [Array.getElem?_toList]; exact hpj)
              rw [(hW p hp).1] at hWp
              cases hWp
            · exact readsOK_of_drawS hw tr
    | seq a b =>
      simp only [codeOrd, Bool.and_eq_true] at ho
      simp only [] at h
      split at h
      · rename_i e1 H1 h1
        refine AW_seq ((ih a e H _ e1 H1 ho.1 h1).mono ?_)
        rintro x2 e2 H2 ⟨rfl, he, rfl⟩
        exact (ih b _ _ _ _ _ ho.2 h).eqE he
      · rename_i hne
        refine AW_seq ((ih a e H x e' H' ho.1 h).mono ?_)
        rintro x2 e2 H2 ⟨rfl, he, rfl⟩
        cases x2 with
        | normal => exact absurd h (hne _ _)
        | exit i => exact ⟨rfl, he, rfl⟩
        | goto i => exact ⟨rfl, he, rfl⟩
        | ret => exact ⟨rfl, he, rfl⟩
    | cond y a b =>
      simp only [codeOrd, Bool.and_eq_true] at ho
      simp only [] at h
      split at h
      · rename_i hy; exact AW_cond_true hy (ih a e H x e' H' ho.1 h)
      · rename_i hy; exact AW_cond_false hy (ih b e H x e' H' ho.2 h)
      · cases h
    | block i a =>
      simp only [codeOrd] at ho
      simp only [] at h
      split at h
      · rename_i j e1 H1 h1
        refine AW_block ((ih a e H _ e1 H1 ho h1).mono ?_)
        rintro x2 e2 H2 ⟨rfl, he, rfl⟩
        simp only [Out]
        cases hj : Nat.beq j i with
        | true =>
          rw [hj] at h
          have hj' : j = i := Nat.eq_of_beq_eq_true hj
          cases h; rw [if_pos hj']; exact ⟨rfl, he, rfl⟩
        | false =>
          rw [hj] at h
          have hj' : j ≠ i := Nat.ne_of_beq_eq_false hj
          cases h; rw [if_neg hj']; exact ⟨rfl, he, rfl⟩
      · rename_i hne
        refine AW_block ((ih a e H x e' H' ho h).mono ?_)
        rintro x2 e2 H2 ⟨rfl, he, rfl⟩
        cases x2 with
        | normal => exact ⟨rfl, he, rfl⟩
        | exit i => exact absurd h (hne _ _ _)
        | goto i => exact ⟨rfl, he, rfl⟩
        | ret => exact ⟨rfl, he, rfl⟩
    | loop a =>
      have ho' : codeOrd a = true := by simpa only [codeOrd] using ho
      have hkeep : ∀ {c : Code} {e1 : Env} {H1 : AH} {Q : Ex → Env → AH → Prop}, AW P nt c (ekeep ks e1) H1 Q → AW P nt c e1 H1 Q := fun h ro base w0 σ w a ho S hr => h ro base w0 σ w a ho S (hr.keep ks)
      refine AW_loop (fun m e1 H1 => m ≤ n + 1 ∧ ∃ e2, EqE e1 e2 ∧ runK P ks call nt m (.loop a) e2 H1 = some (x, e', H')) (n + 1) ⟨Nat.le_refl _, e, .refl _, by rw [runK_succ]; exact h⟩ ?_
      rintro m e1 H1 ⟨hmn, e2, he2, h1⟩
      refine AW.eqE he2 (hkeep ?_)
      cases m with
      | zero => cases h1
      | succ m =>
        rw [runK_succ] at h1
        simp only [] at h1
        have iha : ∀ x2 e3 H2, runK P ks call nt m a (ekeep ks e2) H1 = some (x2, e3, H2) → AW P nt a (ekeep ks e2) H1 fun x3 e4 H3 => x3 = x2 ∧ EqE e4 e3 ∧ H3 = H2 := by
          intro x2 e3 H2 hx
          exact ih0 m (by omega) a _ H1 x2 e3 H2 ho' hx
        split at h1
        · rename_i e3 H2 h2
          refine (iha _ _ _ h2).mono ?_
          rintro x3 e4 H3 ⟨rfl, he, rfl⟩
          exact ⟨m, by omega, by omega, e3, he, h1⟩
        · rename_i hne
          refine (iha _ _ _ h1).mono ?_
          rintro x3 e4 H3 ⟨rfl, he, rfl⟩
          cases x3 with
          | normal => exact absurd h1 (hne _ _)
          | exit i => exact ⟨rfl, he, rfl⟩
          | goto i => exact ⟨rfl, he, rfl⟩
          | ret => exact ⟨rfl, he, rfl⟩

theorem aResList_eqE {e e' : Env} (h : EqE e e') (H : AH) : ∀ l : List ResultVar, aResList P e H l = aResList P e' H l
  | [] => rfl
  | r :: rs => by
    have h1 : aRes1 P e H r = aRes1 P e' H r := by
      cases r with
      | tmp t => simp only [aRes1, h t]
      | cell a t => simp only [aRes1, oval_eqE h]
    simp only [aResList, h1, aResList_eqE h H rs]
theorem aResults_eqE {e e' : Env} (h : EqE e e') (fn : Func) (H : AH) : aResults P fn e H = aResults P fn e' H := by
  simp only [aResults, aResList_eqE h]

theorem cond_some' {α : Type} {b : Bool} {x : Option α} {r : α} (h : (bif b then x else none) = some r) : b = true ∧ x = some r := by
  cases b with
  | true => exact ⟨rfl, h⟩
  | false => cases h

theorem runG_sound {C : Cx P} (hC : C.Ok) : ∀ n, CallOk P (callN (runG C n)) ∧ CallY P (runG C n) := by
  intro n
  induction n with
  | zero =>
    refine ⟨fun f args H v H' h => ?_, fun r args H v H' h => by cases h⟩
    simp only [callN] at h
    cases hb : Nat.ble f 999999 <;> rw [hb] at h <;> cases h
  | succ n ih =>
   refine ⟨fun f args H v H' h => ?_, fun r args H v H' h => ?_⟩
   · simp only [callN] at h
     cases hbl : Nat.ble f 999999 with
     | false => rw [hbl] at h; cases h
     | true =>
     rw [hbl, cond_true, runG_succ, hbl, cond_true] at h
     split at h
     · rename_i r hr
       cases h
       exact hC.ext _ _ _ _ _ hr
     · cases hg : C.good f with
       | false => rw [hg] at h; cases h
       | true =>
       rw [hg] at h
       simp only [cond_true] at h
       split at h
       case h_1 => cases h
       rename_i fn hf
       split at h
       case h_1 => cases h
       rename_i c hb
       have ho : codeOrd c = true := by
         have := hC.ord f hg
         simpa only [fnOrd, hf, hb] using this
       have fin : ∀ {x : Ex} {e1 : Env} {H1 : AH} {v1 : AV}, runK P (C.keep f) (runG C n) (max args.length fn.ntmps) n c (argsEnv 0 args) H = some (x, e1, H1) → (x = .normal ∨ x = .ret) →
           aResults P fn e1 H1 = some v1 → (bif Nat.beq H.length H1.length then some (v1, H1) else bif prefB H.length H1 then some (finish H.length H1 v1) else some (v1, H1)) = some (v, H') → AC P f args H fun v' H2 => v' = v ∧ H2 = H' := by
         intro x e1 H1 v1 hrun hx hres hfin
         have hW := runK_sound (P := P) hC.mixed ih.1 ih.2 n c _ _ _ _ _ ho hrun
         have plain : v1 = v ∧ H1 = H' → AC P f args H fun v' H2 => v' = v ∧ H2 = H' := by
           rintro ⟨rfl, rfl⟩
           refine AC_of_body hf hb rfl (hW.mono ?_)
           rintro x2 e2 H2 ⟨rfl, he, rfl⟩
           exact ⟨hx, _, by rw [aResults_eqE he]; exact hres, rfl, rfl⟩
         cases h1 : Nat.beq H.length H1.length with
         | true => rw [h1] at hfin; cases hfin; exact plain ⟨rfl, rfl⟩
         | false =>
           rw [h1] at hfin
           simp only [cond_false] at hfin
           cases hp : prefB H.length H1 with
           | false => rw [hp] at hfin; cases hfin; exact plain ⟨rfl, rfl⟩
           | true =>
             rw [hp] at hfin
             have hfin' : finish H.length H1 v1 = (v, H') := by simpa using hfin
             refine AC_fin (AC_of_body hf hb rfl (hW.mono ?_))
             rintro x2 e2 H2 ⟨rfl, he, rfl⟩
             exact ⟨hx, v1, by rw [aResults_eqE he]; exact hres, prefB_ok hp, by rw [hfin'], by rw [hfin']⟩
       split at h
       · rename_i e1 H1 hrun
         split at h
         · rename_i v1 hres; exact fin hrun (.inl rfl) hres h
         · cases h
       · rename_i e1 H1 hrun
         split at h
         · rename_i v1 hres; exact fin hrun (.inr rfl) hres h
         · cases h
       · cases h
   · have hbl : Nat.ble (1000000 + r) 999999 = false := by
       cases h : Nat.ble (1000000 + r) 999999 with
       | false => rfl
       | true => have := Nat.le_of_ble_eq_true h; omega
     rw [runG_succ, hbl, cond_false, Nat.add_sub_cancel_left] at h
     split at h
     case h_2 => cases h
     rename_i pe L hrow
     rcases cond_some' h with ⟨hck, h⟩
     simp only [Bool.and_eq_true] at hck
     obtain ⟨hlen, hps, ho1, ho2⟩ := hck
     split at h
     case h_2 => cases h
     rename_i e1 H1 hr1
     split at h
     case h_2 => cases h
     rename_i pe1 L1 hrow1
     split at h
     case h_2 => cases h
     rename_i x2 e2 H2 hr2
     split at h
     case h_2 => cases h
     rename_i s2 pe2 L2 hrow2
     cases h
     refine ⟨pe, L, hrow, Nat.eq_of_beq_eq_true hlen, hps, (runK_sound hC.mixed ih.1 ih.2 n _ _ _ _ _ _ ho1 hr1).mono ?_⟩
     rintro x e3 H3 ⟨rfl, he, rfl⟩
     refine ⟨rfl, pe1, L1, hrow1, ((runK_sound hC.mixed ih.1 ih.2 n _ _ _ _ _ _ ho2 hr2).eqE he).mono ?_⟩
     rintro x4 e4 H4 ⟨rfl, he4, rfl⟩
     exact ⟨s2, pe2, L2, hrow2, rfl, rfl⟩

theorem AC_runG {C : Cx P} (hC : C.Ok) (n : Nat) {f : FuncId} {args : List AV} {H : AH} {v : AV} {H' : AH} (h : runG C n f args H = some (v, H')) : f ≤ 999999 → AC P f args H fun v' H2 => v' = v ∧ H2 = H' := fun hf =>
  (runG_sound hC n).1 f args H v H' (by simp only [callN, Nat.ble_eq_true_of_le hf, cond_true]; exact h)
end
end Go.Proofs.Ytbimapbcpmeooaa.AX
