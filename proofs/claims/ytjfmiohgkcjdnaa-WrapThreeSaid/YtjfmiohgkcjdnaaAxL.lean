/- A plain reading of runs: a run that can be reckoned. -/
import Derived.Test.YtjfmiohgkcjdnaaAx1
import Derived.Test.YtjfmiohgkcjdnaaAxK
namespace Go.Proofs.Ytjfmiohgkcjdnaa.AX
open Go Go.RowKit

def eqb0 : AV → AV → Bool
  | .bool a, .bool b => a == b
  | .int k a, .int k' b => decide (k = k') && decide (a = b)
  | .str a, .str b => a == b
  | .nilptr, .nilptr | .nilmap, .nilmap | .nilfunc, .nilfunc | .niliface, .niliface => true
  | .ptr r o v, .ptr r' o' v' => r == r' && o == o' && v == v'
  | .slice r o l v s f, .slice r' o' l' v' s' f' => r == r' && o == o' && l == l' && v == v' && s == s' && f == f'
  | .map a, .map b => a == b
  | _, _ => false

def eqbL : List AV → List AV → Bool
  | [], [] => true
  | a :: l, b :: m => eqb0 a b && eqbL l m
  | _, _ => false

def eqb : AV → AV → Bool
  | .agg a, .agg b => eqbL a b
  | a, b => eqb0 a b

theorem eqb0_eq {a b : AV} (h : eqb0 a b = true) : a = b := by
  cases a <;> cases b <;> simp_all [eqb0]

theorem eqbL_eq : ∀ {a b : List AV}, eqbL a b = true → a = b
  | [], [], _ => rfl
  | [], _ :: _, h => by simp [eqbL] at h
  | _ :: _, [], h => by simp [eqbL] at h
  | a :: l, b :: m, h => by
    simp only [eqbL, Bool.and_eq_true] at h
    rw [eqb0_eq h.1, eqbL_eq h.2]

theorem eqb_eq {a b : AV} (h : eqb a b = true) : a = b := by
  unfold eqb at h
  split at h
  · rw [eqbL_eq h]
  · exact eqb0_eq h

def isFnCall : Op → Bool
  | .call { callee := .value _, .. } => true
  | .call { callee := .invoke .., .. } => true
  | _ => false

abbrev Caller := FuncId → List AV → AH → Option (AV × AH)

def runOps (P : Program) (call : Caller) (nt : Nat) (ops : Array Oper) : List Oper → Env → AH → Option (List Rec × Env × AH)
  | [], e, H => some ([], e, H)
  | o :: rest, e, H =>
    match wantedA ops e o with
    | none => none
    | some false =>
      match runOps P call nt ops rest (putDst e o.dst none) H with
      | some (tr, x) => some (⟨e, H, none, H⟩ :: tr, x)
      | none => none
    | some true =>
      if dstOk nt o.dst then
        if isFnCall o.op then
          match opCall P (oval e) o.op with
          | none => none
          | some (f, args) =>
            match call f args H with
            | none => none
            | some (v, H1) =>
              match runOps P call nt ops rest (putDst e o.dst (some v)) H1 with
              | some (tr, x) => some (⟨e, H, some v, H1⟩ :: tr, x)
              | none => none
        else
          match execN P (oval e) H o.op with
          | none => none
          | some (v, H1) =>
            match runOps P call nt ops rest (putDst e o.dst v) H1 with
            | some (tr, x) => some (⟨e, H, v, H1⟩ :: tr, x)
            | none => none
      else none

def eqRes (x : Option (Option AV × AH)) (v : Option AV) : Bool :=
  match x, v with
  | some (some a, _), some b => eqb a b
  | _, _ => false

def readsB (P : Program) (ops : Array Oper) (tr : List Rec) : Bool :=
  let ms := masks ops.toList []
  let z := (ops.toList.zip tr).zipIdx
  z.all fun x => !isR x.1.1.op || (match wantedA ops x.1.2.e x.1.1 with | some true => false | _ => true) ||
    z.all fun y => !isW y.1.1.op || anc ms x.2 y.2 || anc ms y.2 x.2 ||
      (eqRes (execN P (oval x.1.2.e) y.1.2.H x.1.1.op) x.1.2.v && eqRes (execN P (oval x.1.2.e) y.1.2.H' x.1.1.op) x.1.2.v)

def runC (P : Program) (ks : List Nat) (call : Caller) (nt : Nat) : Nat → Code → Env → AH → Option (Ex × Env × AH)
  | 0, _, _, _ => none
  | n + 1, c, e, H =>
    match c with
    | .skip | .label _ => some (.normal, e, H)
    | .region _ ops draw =>
      match runOps P call nt ops ops.toList e H with
      | none => none
      | some (tr, e', H') => if draw && !readsB P ops tr then none else some (.normal, ekeep ks e', H')
    | .seq a b =>
      match runC P ks call nt n a e H with
      | some (.normal, e, H) => runC P ks call nt n b e H
      | r => r
    | .cond x a b =>
      match oval e x with
      | .bool true => runC P ks call nt n a e H
      | .bool false => runC P ks call nt n b e H
      | _ => none
    | .block i a =>
      match runC P ks call nt n a e H with
      | some (.exit j, e, H) => if j = i then some (.normal, e, H) else some (.exit j, e, H)
      | r => r
    | .loop a =>
      match runC P ks call nt n a e H with
      | some (.normal, e, H) => runC P ks call nt n (.loop a) e H
      | r => r
    | .exit i => some (.exit i, e, H)
    | .goto l => some (.goto l, e, H)
    | .ret => some (.ret, e, H)
    | _ => none

def prefB (N : Nat) (H' : AH) : Bool := decide (N ≤ H'.length) && (H'.take N).all (objBelB N)

/-- 'good': the functions that are run; 'keep': what is kept between the statements of a function; 'ext': what is known of other functions. -/
structure Cx (P : Program) where
  good : FuncId → Bool
  keep : FuncId → List Nat
  ext : Caller

def runF {P : Program} (C : Cx P) : Nat → Caller
  | 0, _, _, _ => none
  | n + 1, f, args, H =>
    match C.ext f args H with
    | some r => some r
    | none =>
      if C.good f then
        match P.funcs[f]? with
        | none => none
        | some fn =>
          match fn.body with
          | none => none
          | some c =>
            match runC P (C.keep f) (runF C n) (max args.length fn.ntmps) n c (argsEnv 0 args) H with
            | some (.normal, e, H') | some (.ret, e, H') =>
              match aResults P fn e H' with
              | some v => if prefB H.length H' then some (finish H.length H' v) else some (v, H')
              | none => none
            | _ => none
      else none

/-- In each statement whose order is open the edges are in order. -/
def codeOrd : Code → Bool
  | .region _ ops draw => !draw || ordOK ops
  | .seq a b => codeOrd a && codeOrd b
  | .cond _ a b => codeOrd a && codeOrd b
  | .block _ a => codeOrd a
  | .loop a => codeOrd a
  | .rangeFunc _ _ a b => codeOrd a && codeOrd b
  | _ => true

def fnOrd (P : Program) (f : FuncId) : Bool :=
  match P.funcs[f]? with
  | some fn => match fn.body with
    | some c => codeOrd c
    | none => true
  | none => true

/-- What is given is true. -/
structure Cx.Ok {P : Program} (C : Cx P) : Prop where
  mixed : P.follows .mixedOrders = true
  ord : ∀ f, C.good f = true → fnOrd P f = true
  ext : ∀ f args H v H', C.ext f args H = some (v, H') → AC P f args H fun v' H2 => v' = v ∧ H2 = H'

section
variable {P : Program} {nt : Nat} {ops : Array Oper} {call : Caller}

def CallOk (P : Program) (call : Caller) : Prop := ∀ f args H v H', call f args H = some (v, H') → AC P f args H fun v' H2 => v' = v ∧ H2 = H'

/-- Functions alone: rounds have numbers from 1000000 on. -/
def callN (call : Caller) : Caller := fun f args H => bif Nat.ble f 999999 then call f args H else none
def CallY (P : Program) (call : Caller) : Prop := ∀ r args H v H', call (1000000 + r) args H = some (v, H') → AYld P r args H fun v' H2 => v' = v ∧ H2 = H'
theorem callN_y (call : Caller) (r : Nat) (args : List AV) (H : AH) : callN call (1000000 + r) args H = none := by
  have : Nat.ble (1000000 + r) 999999 = false := by
    cases h : Nat.ble (1000000 + r) 999999 with
    | false => rfl
    | true => have := Nat.le_of_ble_eq_true h; omega
  simp only [callN, this, cond_false]
theorem callN_idem (call : Caller) : callN (callN call) = callN call := by
  funext f args H
  simp only [callN]
  cases Nat.ble f 999999 <;> rfl

theorem runOps_trace (hc : CallOk P call) : ∀ {l : List Oper} {e e' : Env} {H H' : AH} {tr : List Rec}, runOps P call nt ops l e H = some (tr, e', H') → Trace P nt ops l e H tr e' H'
  | [], e, e', H, H', tr, h => by simp [runOps] at h; obtain ⟨rfl, rfl, rfl⟩ := h; exact .nil _ _
  | o :: rest, e, e', H, H', tr, h => by
    simp only [runOps] at h
    split at h
    · cases h
    · rename_i hw
      split at h
      · rename_i tr' x hx
        cases h
        exact .skip hw (runOps_trace hc hx)
      · cases h
    · rename_i hw
      split at h
      case isFalse => cases h
      rename_i hd
      split at h
      · split at h
        case h_1 => cases h
        rename_i f args hf
        split at h
        case h_1 => cases h
        rename_i v H1 hv
        split at h
        case h_2 => cases h
        rename_i tr' x hx
        cases h
        exact .call hw hf hd (hc _ _ _ _ _ hv) (runOps_trace hc hx)
      · split at h
        case h_1 => cases h
        rename_i v H1 hv
        split at h
        case h_2 => cases h
        rename_i tr' x hx
        cases h
        exact .op hw hv hd (runOps_trace hc hx)

theorem AO_of_trace : ∀ {l : List Oper} {e e' : Env} {H H' : AH} {tr : List Rec} {Q : Env → AH → Prop}, Trace P nt ops l e H tr e' H' → Q e' H' → AO P nt ops l e H Q := by
  intro l e e' H H' tr Q h
  induction h with
  | nil => exact fun hq => AO_nil hq
  | op h1 h2 h3 _ ih => exact fun hq => AO_op h1 h2 h3 (ih hq)
  | skip h1 _ ih => exact fun hq => AO_skip h1 (ih hq)
  | call h1 h2 h3 h4 _ ih => exact fun hq => AO_call h1 h2 h3 (h4.mono fun v' H2 ⟨e1, e2⟩ => by subst e1; subst e2; exact ih hq)

theorem eqRes_eq {x : Option (Option AV × AH)} {v : Option AV} (h : eqRes x v = true) : ∃ H, x = some (v, H) := by
  unfold eqRes at h
  split at h
  · rename_i a H b
    rw [eqb_eq h]
    exact ⟨H, rfl⟩
  · cases h

theorem isR_notW {o : Op} (h : isR o = true) : isW o = false := by
  cases o <;> simp [isR] at h <;> rfl

theorem readsB_ok {tr : List Rec} (_hl : tr.length = ops.toList.length) (h : readsB P ops tr = true) : readsOK P ops tr := by
  intro i j o p r s ho hp hr hs hR hW hw h1 h2
  have mem : ∀ (i : Nat) (o : Oper) (r : Rec), ops[i]? = some o → tr[i]? = some r → ((o, r), i) ∈ (ops.toList.zip tr).zipIdx := by
    intro i o r ho hr
    rw [List.mk_mem_zipIdx_iff_getElem?, List.getElem?_zip_eq_some]
    exact ⟨by rw [Array.getElem?_toList]; exact ho, hr⟩
  unfold readsB at h
  simp only [List.all_eq_true, Bool.or_eq_true, Bool.not_eq_true', Bool.and_eq_true] at h
  rcases h _ (mem i o r ho hr) with (h3 | h3) | h3
  · simp only [] at h3; rw [hR] at h3; cases h3
  · simp only [hw] at h3; cases h3
  · rcases h3 _ (mem j p s hp hs) with ((h4 | h4) | h4) | h4
    · simp only [] at h4; rw [hW] at h4; cases h4
    · simp only [] at h4; rw [h1] at h4; cases h4
    · simp only [] at h4; rw [h2] at h4; cases h4
    · obtain ⟨H1, g1⟩ := eqRes_eq h4.1
      obtain ⟨H2, g2⟩ := eqRes_eq h4.2
      have e1 := execN_same (isR_notW hR) g1
      have e2 := execN_same (isR_notW hR) g2
      subst e1; subst e2
      exact ⟨g1, g2⟩

theorem runC_sound (hm : P.follows .mixedOrders = true) (hc : CallOk P call) {ks : List Nat} : ∀ (n : Nat) (c : Code) (e : Env) (H : AH) (x : Ex) (e' : Env) (H' : AH), codeOrd c = true → runC P ks call nt n c e H = some (x, e', H') →
    AW P nt c e H fun x2 e2 H2 => x2 = x ∧ e2 = e' ∧ H2 = H' := by
  intro n
  induction n using Nat.strongRecOn with
  | _ n0 ih0 =>
    intro c e H x e' H' ho h
    cases n0 with
    | zero => simp [runC] at h
    | succ n =>
    have ih := ih0 n (by omega)
    cases c with
    | skip => simp only [runC] at h; cases h; exact AW_skip ⟨rfl, rfl, rfl⟩
    | label l => simp only [runC] at h; cases h; exact AW_label ⟨rfl, rfl, rfl⟩
    | exit l => simp only [runC] at h; cases h; exact AW_exit ⟨rfl, rfl, rfl⟩
    | goto l => simp only [runC] at h; cases h; exact AW_goto ⟨rfl, rfl, rfl⟩
    | ret => simp only [runC] at h; cases h; exact AW_ret ⟨rfl, rfl, rfl⟩
    | rangeFunc => simp [runC] at h
    | scope => simp [runC] at h
    | refuse => simp [runC] at h
    | region id ops draw =>
      simp only [runC] at h
      split at h
      case h_1 => cases h
      rename_i tr e1 H1 hr
      have hT := runOps_trace hc hr
      split at h
      · cases h
      rename_i hd
      cases h
      cases draw with
      | false => exact AW_region ks (AO_of_trace hT ⟨rfl, rfl, rfl⟩)
      | true =>
        simp only [Bool.true_and, Bool.not_eq_true, Bool.not_eq_false'] at hd
        simp only [codeOrd, Bool.not_true, Bool.false_or] at ho
        exact AW_draw hm ks hT ⟨ho, readsB_ok hT.length hd⟩ ⟨rfl, rfl, rfl⟩
    | seq a b =>
      simp only [codeOrd, Bool.and_eq_true] at ho
      simp only [runC] at h
      split at h
      · rename_i e1 H1 h1
        refine AW_seq ((ih a e H _ e1 H1 ho.1 h1).mono ?_)
        rintro x2 e2 H2 ⟨rfl, rfl, rfl⟩
        exact ih b _ _ _ _ _ ho.2 h
      · rename_i hne
        refine AW_seq ((ih a e H x e' H' ho.1 h).mono ?_)
        rintro x2 e2 H2 ⟨rfl, rfl, rfl⟩
        cases x2 with
        | normal => exact absurd h (hne _ _)
        | exit i => exact ⟨rfl, rfl, rfl⟩
        | goto i => exact ⟨rfl, rfl, rfl⟩
        | ret => exact ⟨rfl, rfl, rfl⟩
    | cond y a b =>
      simp only [codeOrd, Bool.and_eq_true] at ho
      simp only [runC] at h
      split at h
      · rename_i hy; exact AW_cond_true hy (ih a e H x e' H' ho.1 h)
      · rename_i hy; exact AW_cond_false hy (ih b e H x e' H' ho.2 h)
      · cases h
    | block i a =>
      simp only [codeOrd] at ho
      simp only [runC] at h
      split at h
      · rename_i j e1 H1 h1
        refine AW_block ((ih a e H _ e1 H1 ho h1).mono ?_)
        rintro x2 e2 H2 ⟨rfl, rfl, rfl⟩
        simp only [Out]
        split at h
        · rename_i hj; cases h; rw [if_pos hj]; exact ⟨rfl, rfl, rfl⟩
        · rename_i hj; cases h; rw [if_neg hj]; exact ⟨rfl, rfl, rfl⟩
      · rename_i hne
        refine AW_block ((ih a e H x e' H' ho h).mono ?_)
        rintro x2 e2 H2 ⟨rfl, rfl, rfl⟩
        cases x2 with
        | normal => exact ⟨rfl, rfl, rfl⟩
        | exit i => exact absurd h (hne _ _ _)
        | goto i => exact ⟨rfl, rfl, rfl⟩
        | ret => exact ⟨rfl, rfl, rfl⟩
    | loop a =>
      have ho' : codeOrd a = true := by simpa only [codeOrd] using ho
      refine AW_loop (fun m e1 H1 => m ≤ n + 1 ∧ runC P ks call nt m (.loop a) e1 H1 = some (x, e', H')) (n + 1) ⟨Nat.le_refl _, h⟩ ?_
      rintro m e1 H1 ⟨hmn, h1⟩
      cases m with
      | zero => simp [runC] at h1
      | succ m =>
        simp only [runC] at h1
        have iha : ∀ x2 e2 H2, runC P ks call nt m a e1 H1 = some (x2, e2, H2) → AW P nt a e1 H1 fun x3 e3 H3 => x3 = x2 ∧ e3 = e2 ∧ H3 = H2 := by
          intro x2 e2 H2 hx
          exact ih0 m (by omega) a e1 H1 x2 e2 H2 ho' hx
        split at h1
        · rename_i e2 H2 h2
          refine (iha _ _ _ h2).mono ?_
          rintro x3 e3 H3 ⟨rfl, rfl, rfl⟩
          exact ⟨m, by omega, by omega, h1⟩
        · rename_i hne
          refine (iha _ _ _ h1).mono ?_
          rintro x3 e3 H3 ⟨rfl, rfl, rfl⟩
          cases x3 with
          | normal => exact absurd h1 (hne _ _)
          | exit i => exact ⟨rfl, rfl, rfl⟩
          | goto i => exact ⟨rfl, rfl, rfl⟩
          | ret => exact ⟨rfl, rfl, rfl⟩

theorem prefB_ok {H H' : AH} (h : prefB H.length H' = true) : PrefOk H H' := by
  simp only [prefB, Bool.and_eq_true, decide_eq_true_eq, List.all_eq_true] at h
  refine ⟨h.1, fun r o hr ho => .inr (.of_B (h.2 o ?_))⟩
  refine List.mem_of_getElem? (i := r) ?_
  rw [List.getElem?_take_of_lt hr]; exact ho

theorem runF_sound {C : Cx P} (hC : C.Ok) : ∀ n, CallOk P (runF C n) := by
  intro n
  induction n with
  | zero => intro f args H v H' h; simp [runF] at h
  | succ n ih =>
    intro f args H v H' h
    simp only [runF] at h
    split at h
    · rename_i r hr
      cases h
      exact hC.ext _ _ _ _ _ hr
    · split at h
      case isFalse => cases h
      rename_i hg
      split at h
      case h_1 => cases h
      rename_i fn hf
      split at h
      case h_1 => cases h
      rename_i c hb
      have ho : codeOrd c = true := by
        have := hC.ord f hg
        simpa only [fnOrd, hf, hb] using this
      have fin : ∀ {x : Ex} {e1 : Env} {H1 : AH} {v1 : AV}, runC P (C.keep f) (runF C n) (max args.length fn.ntmps) n c (argsEnv 0 args) H = some (x, e1, H1) → (x = .normal ∨ x = .ret) →
          aResults P fn e1 H1 = some v1 → (if prefB H.length H1 then some (finish H.length H1 v1) else some (v1, H1)) = some (v, H') → AC P f args H fun v' H2 => v' = v ∧ H2 = H' := by
        intro x e1 H1 v1 hrun hx hres hfin
        have hW := runC_sound (P := P) hC.mixed ih n c _ _ _ _ _ ho hrun
        split at hfin
        · rename_i hp
          have hfin' : finish H.length H1 v1 = (v, H') := by simpa using hfin
          refine AC_fin (AC_of_body hf hb rfl (hW.mono ?_))
          rintro x2 e2 H2 ⟨rfl, rfl, rfl⟩
          exact ⟨hx, v1, hres, prefB_ok hp, by rw [hfin'], by rw [hfin']⟩
        · cases hfin
          refine AC_of_body hf hb rfl (hW.mono ?_)
          rintro x2 e2 H2 ⟨rfl, rfl, rfl⟩
          exact ⟨hx, _, hres, rfl, rfl⟩
      split at h
      · rename_i e1 H1 hrun
        split at h
        · rename_i v1 hres; exact fin hrun (.inl rfl) hres h
        · cases h
      · rename_i e1 H1 hrun
        split at h
        · rename_i v1 hres; exact fin hrun (.inr rfl) hres h
        · cases h
      · cases h

theorem AC_run {C : Cx P} (hC : C.Ok) (n : Nat) {f : FuncId} {args : List AV} {H : AH} {v : AV} {H' : AH} (h : runF C n f args H = some (v, H')) : AC P f args H fun v' H2 => v' = v ∧ H2 = H' :=
  runF_sound hC n f args H v H' h
end
end Go.Proofs.Ytjfmiohgkcjdnaa.AX
