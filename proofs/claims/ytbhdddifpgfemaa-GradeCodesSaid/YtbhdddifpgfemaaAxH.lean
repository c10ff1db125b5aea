/- A plain reading of runs: statements about calls, regions and code. -/
import Derived.Test.YtbhdddifpgfemaaAxG
import Derived.Deep.LoopGhost
namespace Go.Proofs.Ytbhdddifpgfemaa.AX
open Go Go.RowKit

inductive Ex where
  | normal
  | exit (id : Nat)
  | goto (l : Nat)
  | ret
  deriving DecidableEq

def Ex.conc : Ex → Exit
  | .normal => .normal
  | .exit i => .exit i
  | .goto l => .goto l
  | .ret => .ret

/-- Function f, called with 'args' over rows H, returns, and Q holds of what it returns and of the rows then. -/
def AC (P : Program) (f : FuncId) (args : List AV) (H : AH) (Q : AV → AH → Prop) : Prop :=
  ∀ (base : Nat) (w0 : World) (σ : Inj) (w : World) (cargs : Array Value), Sim base w0 σ H w → RelVs σ args cargs.toList →
    Calls P f cargs w fun en w' => ∃ c σ' v H', en = .returned c ∧ σ.le σ' ∧ Sim base w0 σ' H' w' ∧ RelV σ' v c ∧ Q v H'

def AWPost (base : Nat) (w0 : World) (nt : Nat) (σ : Inj) (Q : Ex → Env → AH → Prop) : Exit → Act → World → Prop :=
  fun ex a' w' => ∃ x σ' e' H', ex = x.conc ∧ σ.le σ' ∧ Sim base w0 σ' H' w' ∧ ERel σ' nt e' a' ∧ Q x e' H'

def AW (P : Program) (nt : Nat) (c : Code) (e : Env) (H : AH) (Q : Ex → Env → AH → Prop) : Prop :=
  ∀ (base : Nat) (w0 : World) (σ : Inj) (w : World) (a : Act), Sim base w0 σ H w → ERel σ nt e a → c.wp P (AWPost base w0 nt σ Q) a w

def AO (P : Program) (nt : Nat) (ops : Array Oper) (rest : List Oper) (e : Env) (H : AH) (Q : Env → AH → Prop) : Prop :=
  ∀ (base : Nat) (w0 : World) (σ : Inj) (w : World) (a : Act), Sim base w0 σ H w → ERel σ nt e a →
    wpList P ops (AWPost base w0 nt σ fun x e H => x = .normal ∧ Q e H) rest a w

section
variable {P : Program} {nt : Nat} {e : Env} {H : AH}

theorem AWPost.mono {base : Nat} {w0 : World} {σ σ1 : Inj} {Q Q' : Ex → Env → AH → Prop} (hl : σ.le σ1) (hq : ∀ x e H, Q x e H → Q' x e H) {ex : Exit} {a : Act} {w : World} (h : AWPost base w0 nt σ1 Q ex a w) : AWPost base w0 nt σ Q' ex a w := by
  obtain ⟨x, σ', e', H', h1, h2, h3, h4, h5⟩ := h
  exact ⟨x, σ', e', H', h1, hl.trans h2, h3, h4, hq _ _ _ h5⟩

theorem AC.mono {f : FuncId} {args : List AV} {Q Q' : AV → AH → Prop} (h : AC P f args H Q) (hq : ∀ v H', Q v H' → Q' v H') : AC P f args H Q' :=
  fun base w0 σ w cargs S hr => (h base w0 σ w cargs S hr).mono fun _ _ ⟨c, σ', v, H', h1, h2, h3, h4, h5⟩ => ⟨c, σ', v, H', h1, h2, h3, h4, hq _ _ h5⟩

theorem AW.mono {c : Code} {Q Q' : Ex → Env → AH → Prop} (h : AW P nt c e H Q) (hq : ∀ x e H, Q x e H → Q' x e H) : AW P nt c e H Q' :=
  fun base w0 σ w a S hr => wp_mono (h base w0 σ w a S hr) fun _ _ _ h => h.mono (.refl σ) hq

theorem AW_skip {Q : Ex → Env → AH → Prop} (h : Q .normal e H) : AW P nt .skip e H Q :=
  fun _ _ σ _ _ S hr => wp_skip ⟨.normal, σ, e, H, rfl, .refl σ, S, hr, h⟩
theorem AW_label {l : Nat} {Q : Ex → Env → AH → Prop} (h : Q .normal e H) : AW P nt (.label l) e H Q :=
  fun _ _ σ _ _ S hr => wp_label ⟨.normal, σ, e, H, rfl, .refl σ, S, hr, h⟩
theorem AW_exit {l : Nat} {Q : Ex → Env → AH → Prop} (h : Q (.exit l) e H) : AW P nt (.exit l) e H Q :=
  fun _ _ σ _ _ S hr => wp_exit ⟨.exit l, σ, e, H, rfl, .refl σ, S, hr, h⟩
theorem AW_goto {l : Nat} {Q : Ex → Env → AH → Prop} (h : Q (.goto l) e H) : AW P nt (.goto l) e H Q :=
  fun _ _ σ _ _ S hr => wp_goto ⟨.goto l, σ, e, H, rfl, .refl σ, S, hr, h⟩
theorem AW_ret {Q : Ex → Env → AH → Prop} (h : Q .ret e H) : AW P nt .ret e H Q :=
  fun _ _ σ _ _ S hr => wp_ret ⟨.ret, σ, e, H, rfl, .refl σ, S, hr, h⟩

/-- What follows a first part. -/
def Then (P : Program) (nt : Nat) (c : Code) (Q : Ex → Env → AH → Prop) : Ex → Env → AH → Prop
  | .normal, e, H => AW P nt c e H Q
  | x, e, H => Q x e H

theorem AW_seq {c d : Code} {Q : Ex → Env → AH → Prop} (h : AW P nt c e H (Then P nt d Q)) : AW P nt (.seq c d) e H Q := fun base w0 σ w a S hr => by
  refine wp_seq (wp_mono (h base w0 σ w a S hr) ?_)
  rintro ex a' w' ⟨x, σ', e', H', rfl, h2, h3, h4, h5⟩
  cases x with
  | normal => exact wp_mono (h5 base w0 σ' w' a' h3 h4) fun _ _ _ h => h.mono h2 (fun _ _ _ h => h)
  | exit i => exact ⟨.exit i, σ', e', H', rfl, h2, h3, h4, h5⟩
  | goto i => exact ⟨.goto i, σ', e', H', rfl, h2, h3, h4, h5⟩
  | ret => exact ⟨.ret, σ', e', H', rfl, h2, h3, h4, h5⟩

theorem AW_cond {x : Operand} {c d : Code} {t : Bool} {Q : Ex → Env → AH → Prop} (hc : oval e x = .bool t) (h : AW P nt (if t then c else d) e H Q) : AW P nt (.cond x c d) e H Q := fun base w0 σ w a S hr => by
  have hv := oval_rel hr x
  rw [hc] at hv
  refine wp_cond (t := t) ?_ (h base w0 σ w a S hr)
  generalize a.eval x = v at hv
  cases hv; rfl

theorem AW_cond_true {x : Operand} {c d : Code} {Q : Ex → Env → AH → Prop} (hc : oval e x = .bool true) (h : AW P nt c e H Q) : AW P nt (.cond x c d) e H Q := AW_cond hc h
theorem AW_cond_false {x : Operand} {c d : Code} {Q : Ex → Env → AH → Prop} (hc : oval e x = .bool false) (h : AW P nt d e H Q) : AW P nt (.cond x c d) e H Q := AW_cond hc h
theorem AW_cond_split {x : Operand} {c d : Code} {t : Bool} {Q : Ex → Env → AH → Prop} (hc : oval e x = .bool t) (h1 : t = true → AW P nt c e H Q) (h2 : t = false → AW P nt d e H Q) : AW P nt (.cond x c d) e H Q := by
  cases t
  · exact AW_cond_false hc (h2 rfl)
  · exact AW_cond_true hc (h1 rfl)

/-- What stands behind a block. -/
def Out (id : Nat) (Q : Ex → Env → AH → Prop) : Ex → Env → AH → Prop
  | .exit i, e, H => if i = id then Q .normal e H else Q (.exit i) e H
  | x, e, H => Q x e H

theorem AW_block {id : Nat} {c : Code} {Q : Ex → Env → AH → Prop} (h : AW P nt c e H (Out id Q)) : AW P nt (.block id c) e H Q := fun base w0 σ w a S hr => by
  refine wp_block (wp_mono (h base w0 σ w a S hr) ?_)
  rintro ex a' w' ⟨x, σ', e', H', rfl, h2, h3, h4, h5⟩
  cases x with
  | normal => exact ⟨.normal, σ', e', H', rfl, h2, h3, h4, h5⟩
  | exit i =>
    simp only [Ex.conc, Exit.inBlock]
    simp only [Out] at h5
    split
    · rename_i hi
      rw [if_pos hi] at h5
      exact ⟨.normal, σ', e', H', rfl, h2, h3, h4, h5⟩
    · rename_i hi
      rw [if_neg hi] at h5
      exact ⟨.exit i, σ', e', H', rfl, h2, h3, h4, h5⟩
  | goto i => exact ⟨.goto i, σ', e', H', rfl, h2, h3, h4, h5⟩
  | ret => exact ⟨.ret, σ', e', H', rfl, h2, h3, h4, h5⟩

/-- A loop: an invariant that bears a number, which every round lowers. -/
theorem AW_loop {c : Code} {Q : Ex → Env → AH → Prop} (I : Nat → Env → AH → Prop) (n0 : Nat) (h0 : I n0 e H)
    (round : ∀ n e H, I n e H → AW P nt c e H fun x e' H' => match x with | .normal => ∃ n', n' < n ∧ I n' e' H' | x => Q x e' H') : AW P nt (.loop c) e H Q := fun base w0 σ w a S hr => by
  refine wp_loop_ghost (fun n a w => ∃ σ' e H, σ.le σ' ∧ Sim base w0 σ' H w ∧ ERel σ' nt e a ∧ I n e H) n0 ⟨σ, e, H, .refl σ, S, hr, h0⟩ ?_
  rintro n a w ⟨σ1, e1, H1, hl, S1, hr1, hI⟩
  refine wp_mono (round n e1 H1 hI base w0 σ1 w a S1 hr1) ?_
  rintro ex a' w' ⟨x, σ', e', H', rfl, h2, h3, h4, h5⟩
  cases x with
  | normal =>
    obtain ⟨n', hn, hI'⟩ := h5
    exact ⟨n', hn, σ', e', H', hl.trans h2, h3, h4, hI'⟩
  | exit i => exact ⟨.exit i, σ', e', H', rfl, hl.trans h2, h3, h4, h5⟩
  | goto i => exact ⟨.goto i, σ', e', H', rfl, hl.trans h2, h3, h4, h5⟩
  | ret => exact ⟨.ret, σ', e', H', rfl, hl.trans h2, h3, h4, h5⟩

/-! ### Operations -/
def putDst (e : Env) (d : Option Tmp) (v : Option AV) : Env :=
  match d, v with
  | none, _ => e
  | some t, some v => eset e t v
  | some t, none => edel e t

def dstOk (nt : Nat) : Option Tmp → Bool
  | none => true
  | some t => decide (t < nt)

theorem ERel.putDst {σ : Inj} {a : Act} (h : ERel σ nt e a) {d : Option Tmp} (hd : dstOk nt d = true) {v : Option AV} {c : Value} (hv : ∀ u, v = some u → RelV σ u c) : ERel σ nt (putDst e d v) (a.put d c) := by
  cases d with
  | none => exact h
  | some t =>
    cases v with
    | none => exact h.del t c
    | some u => exact h.put (by simpa [dstOk] using hd) (hv u rfl)

def isBuiltinW : Builtin → Bool
  | .append | .copy | .clear => true
  | _ => false

/-- One operation that calls nothing. -/
def execN (P : Program) (ρ : Operand → AV) (H : AH) (o : Op) : Option (Option AV × AH) :=
  match o with
  | .store .. | .alloc _ | .box .. | .buildSlice .. | .makeSlice .. | .call { callee := .builtin .append, .. } | .call { callee := .builtin .copy, .. } | .call { callee := .builtin .clear, .. } => aWrite P ρ H o
  | .load .. => (aRead P ρ H o).map fun v => (some v, H)
  | .slice .. =>
    match aPure P ρ o with
    | some v => some (some v, H)
    | none => (aRead P ρ H o).map fun v => (some v, H)
  | _ => (aPure P ρ o).map fun v => (some v, H)

theorem execN_sound {base : Nat} {w0 w : World} {σ : Inj} {ρ : Operand → AV} {ρc : Operand → Value} (hρ : ∀ x, RelV σ (ρ x) (ρc x)) (S : Sim base w0 σ H w) {o : Oper} {v : Option AV} {H' : AH} (h : execN P ρ H o.op = some (v, H')) :
    ∃ n w' σ', (execOp ρc o).run P w = .ok n w' ∧ σ.le σ' ∧ Sim base w0 σ' H' w' ∧ NextOk σ' v n := by
  have hp : ∀ {u}, aPure P ρ o.op = some u → ∃ n w' σ', (execOp ρc o).run P w = .ok n w' ∧ σ.le σ' ∧ Sim base w0 σ' H w' ∧ NextOk σ' (some u) n := fun hu => by
    obtain ⟨c, h1, h2⟩ := aPure_sound hρ hu
    exact ⟨.value c, w, σ, h2 w, .refl σ, S, h1⟩
  have hr : ∀ {u}, aRead P ρ H o.op = some u → ∃ n w' σ', (execOp ρc o).run P w = .ok n w' ∧ σ.le σ' ∧ Sim base w0 σ' H w' ∧ NextOk σ' (some u) n := fun hu => by
    obtain ⟨c, h1, h2⟩ := aRead_sound hρ S hu
    exact ⟨.value c, w, σ, h2, .refl σ, S, h1⟩
  unfold execN at h
  split at h
  case h_9 => obtain ⟨u, hu, h1⟩ := Option.map_eq_some_iff.1 h; cases h1; exact hr hu
  case h_10 =>
    split at h
    · rename_i u hu; cases h; exact hp hu
    · obtain ⟨u, hu, h1⟩ := Option.map_eq_some_iff.1 h; cases h1; exact hr hu
  case h_11 => obtain ⟨u, hu, h1⟩ := Option.map_eq_some_iff.1 h; cases h1; exact hp hu
  all_goals exact aWrite_sound hρ S h

def okFn (P : Program) (f : FuncId) : Bool :=
  match P.funcs[f]? with
  | some fn => fn.body.isSome && fn.name != "runtime.NumGoroutine"
  | none => false

def isPtrD : TypeDesc → Bool
  | .pointer _ => true
  | _ => false

/-- Which function an operation calls, and with what. -/
def opCall (P : Program) (ρ : Operand → AV) : Op → Option (FuncId × List AV)
  | .call { callee := .value g, args, .. } =>
    match ρ g with
    | .func (.func f) first cap => if okFn P f then some (f, first ++ args.toList.map ρ ++ cap) else none
    | _ => none
  | .call { callee := .invoke r name, args, .. } =>
    match ρ r with
    | .iface t v =>
      match P.info? t, P.underlying t with
      | some i, some d =>
        match i.methods.find? (·.name == name) with
        | some m =>
          match m.path.toList, m.func with
          | [], some (f, p) => if okFn P f && (p == isPtrD d) then some (f, v :: args.toList.map ρ) else none
          | _, _ => none
        | none => none
      | _, _ => none
    | _ => none
  | _ => none

theorem run_callFunc {f : FuncId} (h : okFn P f = true) (args : Array Value) (w : World) : (callFunc f args).run P w = .ok (.enter f args) w := by
  unfold okFn at h
  split at h
  case h_2 => cases h
  rename_i fn hf
  simp only [Bool.and_eq_true, bne_iff_ne, ne_eq] at h
  obtain ⟨h1, h2⟩ := h
  have h3 : ¬ fn.body = none := by cases hb : fn.body <;> simp_all
  simp [callFunc, hf, h2, h3]

theorem opCall_sound {σ : Inj} {ρ : Operand → AV} {ρc : Operand → Value} (hρ : ∀ x, RelV σ (ρ x) (ρc x)) {o : Oper} {f : FuncId} {args : List AV} (h : opCall P ρ o.op = some (f, args)) :
    ∃ cargs : Array Value, RelVs σ args cargs.toList ∧ ∀ w, (execOp ρc o).run P w = .ok (.enter f cargs) w := by
  unfold opCall at h
  unfold execOp
  split at h <;> first | (cases h; done) | skip
  all_goals (rename_i heq; rw [heq]; simp only [])
  case h_1 g as ts =>
    have hg := hρ g
    split at h
    case h_2 => cases h
    rename_i f' first cap hv
    rw [hv] at hg
    split at h
    case isFalse => cases h
    rename_i hok
    cases h
    generalize hc : ρc g = c at hg
    cases hg with
    | func _ h1 h2 =>
      rename_i f2 c2
      refine ⟨f2 ++ as.map ρc ++ c2, ?_, fun w => ?_⟩
      · rw [Array.toList_append, Array.toList_append, Array.toList_map]
        exact (h1.append (RelVs.of_ops hρ _)).append h2
      · simp [resolve, hc, Deferred.ofValue, invoke, run_callFunc hok]
  case h_2 r name as ts =>
    have hr := hρ r
    split at h
    case h_2 => cases h
    rename_i t v hv
    rw [hv] at hr
    split at h
    case h_2 => cases h
    rename_i i d hi hd
    split at h
    case h_2 => cases h
    rename_i m hm
    split at h
    case h_2 => cases h
    rename_i f' p hpath hfn
    split at h
    case isFalse => cases h
    rename_i hok
    simp only [Bool.and_eq_true, beq_iff_eq] at hok
    cases h
    generalize hc : ρc r = c at hr
    cases hr with
    | iface _ h1 =>
      rename_i cv
      refine ⟨#[cv] ++ as.map ρc, ?_, fun w => ?_⟩
      · rw [Array.toList_append, Array.toList_map]
        exact .cons h1 (RelVs.of_ops hρ _)
      · obtain ⟨k, hk⟩ : ∃ k, P.types.size + Made.depth = k + 1 := ⟨P.types.size + Made.depth - 1, by unfold Made.depth; omega⟩
        have hmeth : (method (k + 1) t cv name).run P w = .ok (f, cv) w := by
          cases d <;> simp_all [isPtrD, method, typeInfo, follow, receiverAt, run_underlying hd, Place.get]
        have hx : (#[Value.iface t cv] ++ as.map ρc)[0]? = some (.iface t cv) := by simp [Array.getElem?_append]
        have hy : (as.map ρc).extract 0 as.size = as.map ρc := by rw [← Array.size_map (f := ρc)]; exact Array.extract_size
        simp [resolve, hc, invoke, callMethod, hk, hmeth, hx, run_callFunc hok.1, hy]

/-- Is the operation carried out? -/
def wantedA (ops : Array Oper) (e : Env) (o : Oper) : Option Bool :=
  match o.guard with
  | none => some true
  | some (j, want) =>
    match (ops[j]?).bind (·.dst) with
    | none => none
    | some t => match eget e t with
      | .bool b => some (b == want)
      | _ => none

theorem wantedA_sound {σ : Inj} {a : Act} (hr : ERel σ nt e a) {ops : Array Oper} {o : Oper} {b : Bool} (h : wantedA ops e o = some b) : Region.wanted o (yielded ops a.tmps) = b := by
  unfold wantedA at h
  unfold Region.wanted
  split at h
  · rename_i hg; cases h; rw [hg]
  · rename_i j want hg
    rw [hg]
    simp only []
    split at h
    case h_1 => cases h
    rename_i t ht
    split at h
    case h_2 => cases h
    rename_i b' hb
    cases h
    have hv := hr.2.2 t
    rw [hb] at hv
    have hsz : a.tmps[t]? = some (.bool b') := by
      rw [Array.getD_eq_getD_getElem?] at hv
      cases hx : a.tmps[t]? with
      | none => rw [hx] at hv; simp [undef] at hv; cases hv
      | some u => rw [hx] at hv; simp at hv; cases hv; rfl
    simp [yielded, ht, hsz]

theorem AO_nil {ops : Array Oper} {Q : Env → AH → Prop} (h : Q e H) : AO P nt ops [] e H Q :=
  fun _ _ σ _ _ S hr => ⟨.normal, σ, e, H, rfl, .refl σ, S, hr, rfl, h⟩

theorem wpList_wanted {ops : Array Oper} {Q : Exit → Act → World → Prop} {o : Oper} {rest : List Oper} {a : Act} {w : World} (hw : Region.wanted o (yielded ops a.tmps) = true) (h : o.wp P a w (wpList P ops Q rest) Q) : wpList P ops Q (o :: rest) a w := by
  unfold wpList
  rw [if_pos hw]
  exact .inl h

theorem wpList_mono {ops : Array Oper} {Q Q' : Exit → Act → World → Prop} (hq : ∀ e a w, Q e a w → Q' e a w) : ∀ (l : List Oper) (a : Act) (w : World), wpList P ops Q l a w → wpList P ops Q' l a w
  | [], a, w, h => hq _ _ _ h
  | o :: rest, a, w, h => by
    unfold wpList at h ⊢
    split
    · rename_i hw
      rw [if_pos hw] at h
      refine h.imp ?_ (fun ⟨h1, a0, w0, h2⟩ => ⟨h1, a0, w0, hq _ _ _ h2⟩)
      intro h
      have hm := wpList_mono (ops := ops) hq rest
      unfold Oper.wp at h ⊢
      generalize (execOp a.eval o).run P w = r at *
      cases r with
      | ok n w' =>
        cases n <;> simp only [Oper.upon] at h ⊢ <;> first
          | exact hm _ _ h
          | exact Rows.mono h (fun _ _ he => hm _ _ he)
          | exact Calls.mono h (fun en w'' he => by
              cases en with
              | returned v => exact hm _ _ he
              | panicked c => exact hq _ _ _ he
              | outgrown => obtain ⟨a0, w0, h0⟩ := he; exact ⟨a0, w0, hq _ _ _ h0⟩)
      | halt x w' => cases x <;> simp only [Oper.upon] at h ⊢ <;> exact hq _ _ _ h
    · rename_i hw
      rw [if_neg hw] at h
      exact wpList_mono hq rest _ _ h

theorem AO_op {ops : Array Oper} {Q : Env → AH → Prop} {o : Oper} {rest : List Oper} {v : Option AV} {H' : AH} (hw : wantedA ops e o = some true) (h : execN P (oval e) H o.op = some (v, H')) (hd : dstOk nt o.dst = true)
    (hk : AO P nt ops rest (putDst e o.dst v) H' Q) : AO P nt ops (o :: rest) e H Q := fun base w0 σ w a S hr => by
  refine wpList_wanted (wantedA_sound hr hw) ?_
  obtain ⟨n, w', σ', h1, h2, h3, h4⟩ := execN_sound (oval_rel hr) S h
  unfold Oper.wp
  rw [h1]
  have hr' := hr.mono h2
  cases v with
  | none =>
    cases n <;> simp only [NextOk] at h4
    exact wpList_mono (fun _ _ _ h => h.mono h2 (fun _ _ _ h => h)) rest _ _ (hk base w0 σ' w' _ h3 (hr'.putDst hd (fun u hu => by cases hu)))
  | some u =>
    cases n <;> simp only [NextOk] at h4
    exact wpList_mono (fun _ _ _ h => h.mono h2 (fun _ _ _ h => h)) rest _ _ (hk base w0 σ' w' _ h3 (hr'.putDst hd (fun u' hu => by cases hu; exact h4)))

theorem AO_skip {ops : Array Oper} {Q : Env → AH → Prop} {o : Oper} {rest : List Oper} (hw : wantedA ops e o = some false) (hk : AO P nt ops rest (putDst e o.dst none) H Q) : AO P nt ops (o :: rest) e H Q := fun base w0 σ w a S hr => by
  unfold wpList
  rw [if_neg (by rw [wantedA_sound hr hw]; simp)]
  refine hk base w0 σ w _ S ?_
  cases hd : o.dst with
  | none => exact hr
  | some t => exact hr.del t undef

theorem AO_call {ops : Array Oper} {Q : Env → AH → Prop} {o : Oper} {rest : List Oper} {f : FuncId} {args : List AV} (hw : wantedA ops e o = some true) (hc : opCall P (oval e) o.op = some (f, args)) (hd : dstOk nt o.dst = true)
    (h : AC P f args H fun v H' => AO P nt ops rest (putDst e o.dst (some v)) H' Q) : AO P nt ops (o :: rest) e H Q := fun base w0 σ w a S hr => by
  refine wpList_wanted (wantedA_sound hr hw) ?_
  obtain ⟨cargs, h1, h2⟩ := opCall_sound (oval_rel hr) hc
  unfold Oper.wp
  rw [h2 w]
  simp only [Oper.upon]
  refine (h base w0 σ w cargs S h1).mono ?_
  rintro en w' ⟨c, σ', v, H', rfl, g2, g3, g4, g5⟩
  exact wpList_mono (fun _ _ _ h => h.mono g2 (fun _ _ _ h => h)) rest _ _ (g5 base w0 σ' w' _ g3 ((hr.mono g2).putDst hd (fun u' hu => by cases hu; exact g4)))

theorem AW_region {id : Nat} {ops : Array Oper} {Q : Ex → Env → AH → Prop} (ks : List Nat) (h : AO P nt ops ops.toList e H fun e' H' => Q .normal (ekeep ks e') H') : AW P nt (.region id ops false) e H Q := fun base w0 σ w a S hr => by
  refine wp_region_list (wpList_mono ?_ _ _ _ (h base w0 σ w a S hr))
  rintro ex a' w' ⟨x, σ', e', H', rfl, h2, h3, h4, rfl, h5⟩
  exact ⟨.normal, σ', _, H', rfl, h2, h3, h4.keep ks, h5⟩
end
end Go.Proofs.Ytbhdddifpgfemaa.AX
