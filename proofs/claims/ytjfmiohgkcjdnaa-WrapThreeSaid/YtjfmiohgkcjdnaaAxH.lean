/- A plain reading of runs: statements about calls, regions and code. -/
import Derived.Test.YtjfmiohgkcjdnaaAx4
import Derived.Deep.LoopGhost
import Derived.Sort.LoopGhostIn
namespace Go.Proofs.Ytjfmiohgkcjdnaa.AX
open Go Go.RowKit

def Ex.conc : Ex → Exit
  | .normal => .normal
  | .exit i => .exit i
  | .goto l => .goto l
  | .ret => .ret

/-- Function f, called with 'args' over rows H, returns, and Q holds of what it returns and of the rows then. -/
def AC (P : Program) (f : FuncId) (args : List AV) (H : AH) (Q : AV → AH → Prop) : Prop :=
  ∀ (base : Nat) (w0 : World) (σ : Inj) (w : World) (cargs : Array Value), Sim base w0 σ H w → RelVs σ args cargs.toList →
    Calls P f cargs w fun en w' => ∃ c σ' v H', en = .returned c ∧ σ.le σ' ∧ Sim base w0 σ' H' w' ∧ RelV σ' v c ∧ Q v H'

/-- Any frame: of a function (none), or of a round of the loop whose record is block l. -/
def fc (ro : Option Nat) : Fence := { Fence.wide with round := ro }
theorem fc_room (ro : Option Nat) (n : Nat) : (fc ro).room n := fun _ h => by simp [fc, Fence.wide] at h
theorem fc_calls {ro : Option Nat} {n : Nat} {P : Program} {f : FuncId} {args : Array Value} {w : World} {R : Ending → World → Prop} (h : Calls P f args w R) : CallsIn (fc ro) n P f args w R :=
  callsIn_wide.2 h

/-- The marks that loops over functions have left. -/
def markOf (D : Nat) : Deferred := { target := .collected D, args := #[] }
def Marks (σ σ' : Inj) (ds : List Deferred) (a : Act) : Prop := ∃ new : List Nat, a.defers = new.map markOf ++ ds ∧ new.Nodup ∧ ∀ D ∈ new, σ'.oth D = some false ∧ σ.oth D = none
theorem Marks.refl (σ σ' : Inj) (a : Act) : Marks σ σ' a.defers a := ⟨[], by simp, by simp, by simp⟩
theorem Marks.trans {σ σ1 σ2 : Inj} {ds : List Deferred} {a1 a2 : Act} (h : Marks σ σ1 ds a1) (hl : σ.le σ1) (hl2 : σ1.le σ2) (k : Marks σ1 σ2 a1.defers a2) : Marks σ σ2 ds a2 := by
  obtain ⟨n1, e1, d1, m1⟩ := h
  obtain ⟨n2, e2, d2, m2⟩ := k
  refine ⟨n2 ++ n1, by rw [e2, e1]; simp, ?_, fun D hD => ?_⟩
  · rw [List.nodup_append]
    exact ⟨d2, d1, fun x hx y hy e => by subst e; have := (m2 x hx).2; rw [(m1 x hy).1] at this; cases this⟩
  · rcases List.mem_append.1 hD with h1 | h1
    · refine ⟨(m2 D h1).1, ?_⟩
      cases ho : σ.oth D with
      | none => rfl
      | some k => have := hl.oth D k ho; rw [(m2 D h1).2] at this; cases this
    · exact ⟨hl2.oth _ _ (m1 D h1).1, (m1 D h1).2⟩
theorem Marks.le {σ σ0 σ1 : Inj} {ds : List Deferred} {a : Act} (h : Marks σ σ1 ds a) (hl : σ0.le σ) : Marks σ0 σ1 ds a := by
  obtain ⟨n, e, d, m⟩ := h
  refine ⟨n, e, d, fun D hD => ⟨(m D hD).1, ?_⟩⟩
  cases ho : σ0.oth D with
  | none => rfl
  | some k => have := hl.oth D k ho; rw [(m D hD).2] at this; cases this

def AWPost (base : Nat) (w0 : World) (nt : Nat) (σ : Inj) (ds : List Deferred) (Q : Ex → Env → AH → Prop) : Exit → Act → World → Prop :=
  fun ex a' w' => ∃ x σ' e' H', ex = x.conc ∧ σ.le σ' ∧ Sim base w0 σ' H' w' ∧ ERel σ' nt e' a' ∧ Marks σ σ' ds a' ∧ Q x e' H'

def RoOk (ro : Option Nat) (σ : Inj) : Prop := ∀ l, ro = some l → σ.oth l = some true
theorem RoOk.mono {ro : Option Nat} {σ σ' : Inj} (h : RoOk ro σ) (hl : σ.le σ') : RoOk ro σ' := fun l e => hl.oth _ _ (h l e)

def AW (P : Program) (nt : Nat) (c : Code) (e : Env) (H : AH) (Q : Ex → Env → AH → Prop) : Prop :=
  ∀ (ro : Option Nat) (base : Nat) (w0 : World) (σ : Inj) (w : World) (a : Act), RoOk ro σ → Sim base w0 σ H w → ERel σ nt e a → c.wpIn (fc ro) 0 P (AWPost base w0 nt σ a.defers Q) a w

def AO (P : Program) (nt : Nat) (ops : Array Oper) (rest : List Oper) (e : Env) (H : AH) (Q : Env → AH → Prop) : Prop :=
  ∀ (ro : Option Nat) (base : Nat) (w0 : World) (σ : Inj) (w : World) (a : Act), RoOk ro σ → Sim base w0 σ H w → ERel σ nt e a →
    wpListIn (fc ro) 0 P ops (AWPost base w0 nt σ a.defers fun x e H => x = .normal ∧ Q e H) rest a w

section
variable {P : Program} {nt : Nat} {e : Env} {H : AH}

theorem AWPost.mono {base : Nat} {w0 : World} {σ σ1 : Inj} {ds : List Deferred} {a1 : Act} {Q Q' : Ex → Env → AH → Prop} (hl : σ.le σ1) (hm : Marks σ σ1 ds a1) (hq : ∀ x e H, Q x e H → Q' x e H) {ex : Exit} {a : Act} {w : World} (h : AWPost base w0 nt σ1 a1.defers Q ex a w) : AWPost base w0 nt σ ds Q' ex a w := by
  obtain ⟨x, σ', e', H', h1, h2, h3, h4, h5, h6⟩ := h
  exact ⟨x, σ', e', H', h1, hl.trans h2, h3, h4, hm.trans hl h2 h5, hq _ _ _ h6⟩

theorem AC.mono {f : FuncId} {args : List AV} {Q Q' : AV → AH → Prop} (h : AC P f args H Q) (hq : ∀ v H', Q v H' → Q' v H') : AC P f args H Q' :=
  fun base w0 σ w cargs S hr => (h base w0 σ w cargs S hr).mono fun _ _ ⟨c, σ', v, H', h1, h2, h3, h4, h5⟩ => ⟨c, σ', v, H', h1, h2, h3, h4, hq _ _ h5⟩

theorem AW.mono {c : Code} {Q Q' : Ex → Env → AH → Prop} (h : AW P nt c e H Q) (hq : ∀ x e H, Q x e H → Q' x e H) : AW P nt c e H Q' :=
  fun ro base w0 σ w a ho S hr => wpIn_mono (h ro base w0 σ w a ho S hr) fun _ _ _ h => h.mono (.refl σ) (.refl σ σ a) hq

theorem AW_skip {Q : Ex → Env → AH → Prop} (h : Q .normal e H) : AW P nt .skip e H Q :=
  fun _ _ _ σ _ a _ S hr => wpIn_skip ⟨.normal, σ, e, H, rfl, .refl σ, S, hr, .refl σ σ a, h⟩
theorem AW_label {l : Nat} {Q : Ex → Env → AH → Prop} (h : Q .normal e H) : AW P nt (.label l) e H Q :=
  fun _ _ _ σ _ a _ S hr => wpIn_label ⟨.normal, σ, e, H, rfl, .refl σ, S, hr, .refl σ σ a, h⟩
theorem AW_exit {l : Nat} {Q : Ex → Env → AH → Prop} (h : Q (.exit l) e H) : AW P nt (.exit l) e H Q :=
  fun _ _ _ σ _ a _ S hr => wpIn_exit ⟨.exit l, σ, e, H, rfl, .refl σ, S, hr, .refl σ σ a, h⟩
theorem AW_goto {l : Nat} {Q : Ex → Env → AH → Prop} (h : Q (.goto l) e H) : AW P nt (.goto l) e H Q :=
  fun _ _ _ σ _ a _ S hr => wpIn_goto ⟨.goto l, σ, e, H, rfl, .refl σ, S, hr, .refl σ σ a, h⟩
theorem AW_ret {Q : Ex → Env → AH → Prop} (h : Q .ret e H) : AW P nt .ret e H Q :=
  fun _ _ _ σ _ a _ S hr => wpIn_ret ⟨.ret, σ, e, H, rfl, .refl σ, S, hr, .refl σ σ a, h⟩

/-- What follows a first part. -/
def Then (P : Program) (nt : Nat) (c : Code) (Q : Ex → Env → AH → Prop) : Ex → Env → AH → Prop
  | .normal, e, H => AW P nt c e H Q
  | x, e, H => Q x e H

theorem AW_seq {c d : Code} {Q : Ex → Env → AH → Prop} (h : AW P nt c e H (Then P nt d Q)) : AW P nt (.seq c d) e H Q := fun ro base w0 σ w a ho S hr => by
  refine wpIn_seq (wpIn_mono (h ro base w0 σ w a ho S hr) ?_)
  rintro ex a' w' ⟨x, σ', e', H', rfl, h2, h3, h4, hm, h5⟩
  cases x with
  | normal => exact wpIn_mono (h5 ro base w0 σ' w' a' (ho.mono h2) h3 h4) fun _ _ _ h => h.mono h2 hm (fun _ _ _ h => h)
  | exit i => exact ⟨.exit i, σ', e', H', rfl, h2, h3, h4, hm, h5⟩
  | goto i => exact ⟨.goto i, σ', e', H', rfl, h2, h3, h4, hm, h5⟩
  | ret => exact ⟨.ret, σ', e', H', rfl, h2, h3, h4, hm, h5⟩

theorem AW_cond {x : Operand} {c d : Code} {t : Bool} {Q : Ex → Env → AH → Prop} (hc : oval e x = .bool t) (h : AW P nt (if t then c else d) e H Q) : AW P nt (.cond x c d) e H Q := fun ro base w0 σ w a ho S hr => by
  have hv := oval_rel hr x
  rw [hc] at hv
  refine wpIn_cond (t := t) ?_ (h ro base w0 σ w a ho S hr)
  generalize a.eval x = v at hv
  cases hv; rfl

theorem AW_cond_true {x : Operand} {c d : Code} {Q : Ex → Env → AH → Prop} (hc : oval e x = .bool true) (h : AW P nt c e H Q) : AW P nt (.cond x c d) e H Q := AW_cond hc h
theorem AW_cond_false {x : Operand} {c d : Code} {Q : Ex → Env → AH → Prop} (hc : oval e x = .bool false) (h : AW P nt d e H Q) : AW P nt (.cond x c d) e H Q := AW_cond hc h
theorem AW_cond_split {x : Operand} {c d : Code} {t : Bool} {Q : Ex → Env → AH → Prop} (hc : oval e x = .bool t) (h1 : t = true → AW P nt c e H Q) (h2 : t = false → AW P nt d e H Q) : AW P nt (.cond x c d) e H Q := by
  cases t
  · exact AW_cond_false hc (h2 rfl)
  · exact AW_cond_true hc (h1 rfl)

/-- What stands behind a block. -/
def Out (id : Nat) (Q : Ex → Env → AH → Prop) : Ex → Env → AH → Prop
  | .exit i, e, H => if i = id then Q .normal e H else Q (.exit i) e H
  | x, e, H => Q x e H

theorem AW_block {id : Nat} {c : Code} {Q : Ex → Env → AH → Prop} (h : AW P nt c e H (Out id Q)) : AW P nt (.block id c) e H Q := fun ro base w0 σ w a ho S hr => by
  refine wpIn_block (wpIn_mono (h ro base w0 σ w a ho S hr) ?_)
  rintro ex a' w' ⟨x, σ', e', H', rfl, h2, h3, h4, hm, h5⟩
  cases x with
  | normal => exact ⟨.normal, σ', e', H', rfl, h2, h3, h4, hm, h5⟩
  | exit i =>
    simp only [Ex.conc, Exit.inBlock]
    simp only [Out] at h5
    split
    · rename_i hi
      rw [if_pos hi] at h5
      exact ⟨.normal, σ', e', H', rfl, h2, h3, h4, hm, h5⟩
    · rename_i hi
      rw [if_neg hi] at h5
      exact ⟨.exit i, σ', e', H', rfl, h2, h3, h4, hm, h5⟩
  | goto i => exact ⟨.goto i, σ', e', H', rfl, h2, h3, h4, hm, h5⟩
  | ret => exact ⟨.ret, σ', e', H', rfl, h2, h3, h4, hm, h5⟩

/-- A loop: an invariant that bears a number, which every round lowers. -/
theorem AW_loop {c : Code} {Q : Ex → Env → AH → Prop} (I : Nat → Env → AH → Prop) (n0 : Nat) (h0 : I n0 e H)
    (round : ∀ n e H, I n e H → AW P nt c e H fun x e' H' => match x with | .normal => ∃ n', n' < n ∧ I n' e' H' | x => Q x e' H') : AW P nt (.loop c) e H Q := fun ro base w0 σ w a ho S hr => by
  refine wpIn_loop_ghost (fun n a1 w => ∃ σ' e H, σ.le σ' ∧ Sim base w0 σ' H w ∧ ERel σ' nt e a1 ∧ Marks σ σ' a.defers a1 ∧ I n e H) n0 ⟨σ, e, H, .refl σ, S, hr, .refl σ σ a, h0⟩ ?_
  rintro n a1 w ⟨σ1, e1, H1, hl, S1, hr1, hm1, hI⟩
  refine wpIn_mono (round n e1 H1 hI ro base w0 σ1 w a1 (ho.mono hl) S1 hr1) ?_
  rintro ex a' w' ⟨x, σ', e', H', rfl, h2, h3, h4, hm, h5⟩
  cases x with
  | normal =>
    obtain ⟨n', hn, hI'⟩ := h5
    exact ⟨n', hn, σ', e', H', hl.trans h2, h3, h4, hm1.trans hl h2 hm, hI'⟩
  | exit i => exact ⟨.exit i, σ', e', H', rfl, hl.trans h2, h3, h4, hm1.trans hl h2 hm, h5⟩
  | goto i => exact ⟨.goto i, σ', e', H', rfl, hl.trans h2, h3, h4, hm1.trans hl h2 hm, h5⟩
  | ret => exact ⟨.ret, σ', e', H', rfl, hl.trans h2, h3, h4, hm1.trans hl h2 hm, h5⟩

/-! ### Operations -/
def putDst (e : Env) (d : Option Tmp) (v : Option AV) : Env :=
  match d, v with
  | none, _ => e
  | some t, some v => eset e t v
  | some t, none => edel e t

def dstOk (nt : Nat) : Option Tmp → Bool
  | none => true
  | some t => decide (t < nt)

theorem ERel.putDst {σ : Inj} {a : Act} (h : ERel σ nt e a) {d : Option Tmp} (hd : dstOk nt d = true) {v : Option AV} {c : Value} (hv : ∀ u, v = some u → RelV σ u c) : ERel σ nt (putDst e d v) (a.put d c) := by
  cases d with
  | none => exact h
  | some t =>
    cases v with
    | none => exact h.del t c
    | some u => exact h.put (by simpa [dstOk] using hd) (hv u rfl)

def isBuiltinW : Builtin → Bool
  | .append | .copy | .clear => true
  | _ => false

/-- One operation that calls nothing. -/
def execN (P : Program) (ρ : Operand → AV) (H : AH) (o : Op) : Option (Option AV × AH) :=
  match o with
  | .store .. | .alloc _ | .box .. | .buildSlice .. | .makeSlice .. | .call { callee := .builtin .append, .. } | .call { callee := .builtin .copy, .. } | .call { callee := .builtin .clear, .. } => aWrite P ρ H o
  | .load .. => (aRead P ρ H o).map fun v => (some v, H)
  | .slice .. =>
    match aPure P ρ o with
    | some v => some (some v, H)
    | none => (aRead P ρ H o).map fun v => (some v, H)
  | .lookup t m x ok => (aLook P H t (ρ m) (ρ x) ok).map fun v => (some v, H)
  | .makeMap t r => aMapMake P t (r.map ρ) H
  | .mapUpdate t m k x => (aMapPut P H t (ρ m) (ρ k) (ρ x)).map fun H' => (none, H')
  | _ => (aPure P ρ o).map fun v => (some v, H)

theorem execN_sound {base : Nat} {w0 w : World} {σ : Inj} {ρ : Operand → AV} {ρc : Operand → Value} (hρ : ∀ x, RelV σ (ρ x) (ρc x)) (S : Sim base w0 σ H w) {o : Oper} {v : Option AV} {H' : AH} (h : execN P ρ H o.op = some (v, H')) :
    ∃ n w' σ', (execOp ρc o).run P w = .ok n w' ∧ σ.le σ' ∧ Sim base w0 σ' H' w' ∧ NextOk σ' v n := by
  have hp : ∀ {u}, aPure P ρ o.op = some u → ∃ n w' σ', (execOp ρc o).run P w = .ok n w' ∧ σ.le σ' ∧ Sim base w0 σ' H w' ∧ NextOk σ' (some u) n := fun hu => by
    obtain ⟨c, h1, h2⟩ := aPure_sound hρ hu
    exact ⟨.value c, w, σ, h2 w, .refl σ, S, h1⟩
  have hr : ∀ {u}, aRead P ρ H o.op = some u → ∃ n w' σ', (execOp ρc o).run P w = .ok n w' ∧ σ.le σ' ∧ Sim base w0 σ' H w' ∧ NextOk σ' (some u) n := fun hu => by
    obtain ⟨c, h1, h2⟩ := aRead_sound hρ S hu
    exact ⟨.value c, w, σ, h2, .refl σ, S, h1⟩
  unfold execN at h
  split at h
  case h_9 => obtain ⟨u, hu, h1⟩ := Option.map_eq_some_iff.1 h; cases h1; exact hr hu
  case h_10 =>
    split at h
    · rename_i u hu; cases h; exact hp hu
    · obtain ⟨u, hu, h1⟩ := Option.map_eq_some_iff.1 h; cases h1; exact hr hu
  case h_11 t m x ok heq =>
    obtain ⟨u, hu, h1⟩ := Option.map_eq_some_iff.1 h; cases h1
    obtain ⟨c, g1, g2⟩ := aLook_sound S hu (hρ m) (hρ x)
    exact ⟨.value c, w, σ, by unfold execOp; rw [heq]; simp [g2], .refl σ, S, g1⟩
  case h_12 t r heq =>
    obtain ⟨c, w', σ', g1, g2, g3, g4⟩ := aMapMake_sound (rc := r.map ρc) S h (by cases r with
      | none => trivial
      | some y => exact hρ y)
    exact ⟨.value c, w', σ', by unfold execOp; rw [heq]; simp [g1], g2, g3, g4⟩
  case h_13 t m k x heq =>
    obtain ⟨u, hu, h1⟩ := Option.map_eq_some_iff.1 h; cases h1
    obtain ⟨w', g1, g2⟩ := aMapPut_sound S hu (hρ m) (hρ k) (hρ x)
    exact ⟨.skip, w', σ, by unfold execOp; rw [heq]; simp [g1], .refl σ, g2, trivial⟩
  case h_14 => obtain ⟨u, hu, h1⟩ := Option.map_eq_some_iff.1 h; cases h1; exact hp hu
  all_goals exact aWrite_sound hρ S h

def okFn (P : Program) (f : FuncId) : Bool :=
  match P.funcs[f]? with
  | some fn => fn.body.isSome && fn.name != "runtime.NumGoroutine"
  | none => false

def isPtrD : TypeDesc → Bool
  | .pointer _ => true
  | _ => false

/-- Which function an operation calls, and with what. -/
def opCall (P : Program) (ρ : Operand → AV) : Op → Option (FuncId × List AV)
  | .call { callee := .value g, args, .. } =>
    match ρ g with
    | .func (.func f) first cap => if okFn P f then some (f, first ++ args.toList.map ρ ++ cap) else none
    | _ => none
  | .call { callee := .invoke r name, args, .. } =>
    match ρ r with
    | .iface t v =>
      match P.info? t, P.underlying t with
      | some i, some d =>
        match i.methods.find? (·.name == name) with
        | some m =>
          match m.path.toList, m.func with
          | [], some (f, p) => if okFn P f && (p == isPtrD d) then some (f, v :: args.toList.map ρ) else none
          | _, _ => none
        | none => none
      | _, _ => none
    | _ => none
  | _ => none

theorem run_callFunc {f : FuncId} (h : okFn P f = true) (args : Array Value) (w : World) : (callFunc f args).run P w = .ok (.enter f args) w := by
  unfold okFn at h
  split at h
  case h_2 => cases h
  rename_i fn hf
  simp only [Bool.and_eq_true, bne_iff_ne, ne_eq] at h
  obtain ⟨h1, h2⟩ := h
  have h3 : ¬ fn.body = none := by cases hb : fn.body <;> simp_all
  simp [callFunc, hf, h2, h3]

theorem opCall_sound {σ : Inj} {ρ : Operand → AV} {ρc : Operand → Value} (hρ : ∀ x, RelV σ (ρ x) (ρc x)) {o : Oper} {f : FuncId} {args : List AV} (h : opCall P ρ o.op = some (f, args)) :
    ∃ cargs : Array Value, RelVs σ args cargs.toList ∧ ∀ w, (execOp ρc o).run P w = .ok (.enter f cargs) w := by
  unfold opCall at h
  unfold execOp
  split at h <;> first | (cases h; done) | skip
  all_goals (rename_i heq; rw [heq]; simp only [])
  case h_1 g as ts =>
    have hg := hρ g
    split at h
    case h_2 => cases h
    rename_i f' first cap hv
    rw [hv] at hg
    split at h
    case isFalse => cases h
    rename_i hok
    cases h
    generalize hc : ρc g = c at hg
    cases hg with
    | func _ h1 h2 =>
      rename_i f2 c2
      refine ⟨f2 ++ as.map ρc ++ c2, ?_, fun w => ?_⟩
      · rw [Array.toList_append, Array.toList_append, Array.toList_map]
        exact (h1.append (RelVs.of_ops hρ _)).append h2
      · simp [resolve, hc, Deferred.ofValue, invoke, run_callFunc hok]
  case h_2 r name as ts =>
    have hr := hρ r
    split at h
    case h_2 => cases h
    rename_i t v hv
    rw [hv] at hr
    split at h
    case h_2 => cases h
    rename_i i d hi hd
    split at h
    case h_2 => cases h
    rename_i m hm
    split at h
    case h_2 => cases h
    rename_i f' p hpath hfn
    split at h
    case isFalse => cases h
    rename_i hok
    simp only [Bool.and_eq_true, beq_iff_eq] at hok
    cases h
    generalize hc : ρc r = c at hr
    cases hr with
    | iface _ h1 =>
      rename_i cv
      refine ⟨#[cv] ++ as.map ρc, ?_, fun w => ?_⟩
      · rw [Array.toList_append, Array.toList_map]
        exact .cons h1 (RelVs.of_ops hρ _)
      · obtain ⟨k, hk⟩ : ∃ k, P.types.size + Made.depth = k + 1 := ⟨P.types.size + Made.depth - 1, by unfold Made.depth; omega⟩
        have hmeth : (method (k + 1) t cv name).run P w = .ok (f, cv) w := by
          cases d <;> simp_all [isPtrD, method, typeInfo, follow, receiverAt, run_underlying hd, Place.get]
        have hx : (#[Value.iface t cv] ++ as.map ρc)[0]? = some (.iface t cv) := by simp [Array.getElem?_append]
        have hy : (as.map ρc).extract 0 as.size = as.map ρc := by rw [← Array.size_map (f := ρc)]; exact Array.extract_size
        simp [resolve, hc, invoke, callMethod, hk, hmeth, hx, run_callFunc hok.1, hy]

/-- Is the operation carried out? -/
def wantedA (ops : Array Oper) (e : Env) (o : Oper) : Option Bool :=
  match o.guard with
  | none => some true
  | some (j, want) =>
    match (ops[j]?).bind (·.dst) with
    | none => none
    | some t => match eget e t with
      | .bool b => some (b == want)
      | _ => none

theorem wantedA_sound {σ : Inj} {a : Act} (hr : ERel σ nt e a) {ops : Array Oper} {o : Oper} {b : Bool} (h : wantedA ops e o = some b) : Region.wanted o (yielded ops a.tmps) = b := by
  unfold wantedA at h
  unfold Region.wanted
  split at h
  · rename_i hg; cases h; rw [hg]
  · rename_i j want hg
    rw [hg]
    simp only []
    split at h
    case h_1 => cases h
    rename_i t ht
    split at h
    case h_2 => cases h
    rename_i b' hb
    cases h
    have hv := hr.2.2 t
    rw [hb] at hv
    have hsz : a.tmps[t]? = some (.bool b') := by
      rw [Array.getD_eq_getD_getElem?] at hv
      cases hx : a.tmps[t]? with
      | none => rw [hx] at hv; simp [undef] at hv; cases hv
      | some u => rw [hx] at hv; simp at hv; cases hv; rfl
    simp [yielded, ht, hsz]

theorem AO_nil {ops : Array Oper} {Q : Env → AH → Prop} (h : Q e H) : AO P nt ops [] e H Q :=
  fun _ _ _ σ _ a _ S hr => ⟨.normal, σ, e, H, rfl, .refl σ, S, hr, .refl σ σ a, rfl, h⟩

theorem uponIn_mono {ro : Option Nat} {o : Oper} {a : Act} {K K' : Act → World → Prop} {Q Q' : Exit → Act → World → Prop} (hk : ∀ a w, K a w → K' a w) (hq : ∀ e a w, Q e a w → Q' e a w) {r : Result Next} (h : o.uponIn (fc ro) 0 P a K Q r) : o.uponIn (fc ro) 0 P a K' Q' r := by
  cases r with
  | ok x w' =>
    cases x <;> simp only [Oper.uponIn] at h ⊢ <;> first
      | exact hk _ _ h
      | exact ⟨h.1, CallsIn.mono h.2 (fun e w'' he => by
          cases e with
          | returned v => exact hk _ _ he
          | panicked c => exact hq _ _ _ he
          | outgrown => obtain ⟨a0, w0, h0⟩ := he; exact ⟨a0, w0, hq _ _ _ h0⟩)⟩
      | exact ⟨h.1, RowsIn.mono h.2 (fun _ _ he => hk _ _ he)⟩
      | exact ⟨h.1, RoundIn.mono h.2 (fun e w'' he => by
          cases e with
          | returned v => exact hk _ _ he
          | panicked c => exact hq _ _ _ he
          | outgrown => obtain ⟨a0, w0, h0⟩ := he; exact ⟨a0, w0, hq _ _ _ h0⟩)⟩
  | halt x w' => cases x <;> simp only [Oper.uponIn] at h ⊢ <;> exact hq _ _ _ h
theorem operIn_mono {ro : Option Nat} {o : Oper} {a : Act} {w : World} {K K' : Act → World → Prop} {Q Q' : Exit → Act → World → Prop} (hk : ∀ a w, K a w → K' a w) (hq : ∀ e a w, Q e a w → Q' e a w) (h : o.wpIn (fc ro) 0 P a w K Q) : o.wpIn (fc ro) 0 P a w K' Q' :=
  ⟨h.1, uponIn_mono hk hq h.2⟩
/-- An operation that is no 'defer', in whatever frame. -/
theorem oper_of {ro : Option Nat} {o : Oper} {a : Act} {w : World} {K : Act → World → Prop} {Q : Exit → Act → World → Prop} (hd : ∀ c, o.op ≠ .defer c) (h : o.uponIn (fc ro) 0 P a K Q ((execOp a.eval o).run P w)) : o.wpIn (fc ro) 0 P a w K Q :=
  ⟨fun _ _ => trivial, by rw [Oper.semAt_eq _ _ _ hd]; exact h⟩
theorem execN_nd {ρ : Operand → AV} {H : AH} {o : Op} {r : Option AV × AH} (h : execN P ρ H o = some r) : ∀ c, o ≠ .defer c := by
  rintro c rfl; cases h
theorem opCall_nd {ρ : Operand → AV} {o : Op} {r : FuncId × List AV} (h : opCall P ρ o = some r) : ∀ c, o ≠ .defer c := by
  rintro c rfl; cases h

theorem wpListIn_wanted {ro : Option Nat} {ops : Array Oper} {Q : Exit → Act → World → Prop} {o : Oper} {rest : List Oper} {a : Act} {w : World} (hw : Region.wanted o (yielded ops a.tmps) = true) (h : o.wpIn (fc ro) 0 P a w (wpListIn (fc ro) 0 P ops Q rest) Q) : wpListIn (fc ro) 0 P ops Q (o :: rest) a w := by
  unfold wpListIn
  rw [if_pos hw]
  exact h

theorem wpListIn_mono {ro : Option Nat} {ops : Array Oper} {Q Q' : Exit → Act → World → Prop} (hq : ∀ e a w, Q e a w → Q' e a w) : ∀ (l : List Oper) (a : Act) (w : World), wpListIn (fc ro) 0 P ops Q l a w → wpListIn (fc ro) 0 P ops Q' l a w
  | [], a, w, h => hq _ _ _ h
  | o :: rest, a, w, h => by
    unfold wpListIn at h ⊢
    split
    · rename_i hw
      rw [if_pos hw] at h
      exact operIn_mono (wpListIn_mono hq rest) hq h
    · rename_i hw
      rw [if_neg hw] at h
      exact ⟨h.1, wpListIn_mono hq rest _ _ h.2⟩

theorem Marks.put {σ σ' : Inj} {ds : List Deferred} {a : Act} (h : Marks σ σ' ds a) (d : Option Tmp) (v : Value) : Marks σ σ' ds (a.put d v) := by
  cases d <;> exact h
theorem AWPost.after {base : Nat} {w0 : World} {σ σ1 : Inj} {a : Act} {d : Option Tmp} {u : Value} {Q : Ex → Env → AH → Prop} (hl : σ.le σ1) {ex : Exit} {a' : Act} {w : World} (h : AWPost base w0 nt σ1 (a.put d u).defers Q ex a' w) : AWPost base w0 nt σ a.defers Q ex a' w := by
  refine AWPost.mono (a1 := a.put d u) hl ((Marks.refl σ σ1 a).put d u) (fun _ _ _ h => h) h

theorem AO_op {ops : Array Oper} {Q : Env → AH → Prop} {o : Oper} {rest : List Oper} {v : Option AV} {H' : AH} (hw : wantedA ops e o = some true) (h : execN P (oval e) H o.op = some (v, H')) (hd : dstOk nt o.dst = true)
    (hk : AO P nt ops rest (putDst e o.dst v) H' Q) : AO P nt ops (o :: rest) e H Q := fun ro base w0 σ w a ho S hr => by
  refine wpListIn_wanted (wantedA_sound hr hw) (oper_of (execN_nd h) ?_)
  obtain ⟨n, w', σ', h1, h2, h3, h4⟩ := execN_sound (oval_rel hr) S h
  rw [h1]
  have hr' := hr.mono h2
  cases v with
  | none =>
    cases n <;> simp only [NextOk] at h4
    exact wpListIn_mono (fun _ _ _ h => h.after h2) rest _ _ (hk ro base w0 σ' w' _ (ho.mono h2) h3 (hr'.putDst hd (fun u hu => by cases hu)))
  | some u =>
    cases n <;> simp only [NextOk] at h4
    exact wpListIn_mono (fun _ _ _ h => h.after h2) rest _ _ (hk ro base w0 σ' w' _ (ho.mono h2) h3 (hr'.putDst hd (fun u' hu => by cases hu; exact h4)))

theorem AO_skip {ops : Array Oper} {Q : Env → AH → Prop} {o : Oper} {rest : List Oper} (hw : wantedA ops e o = some false) (hk : AO P nt ops rest (putDst e o.dst none) H Q) : AO P nt ops (o :: rest) e H Q := fun ro base w0 σ w a ho S hr => by
  unfold wpListIn
  rw [if_neg (by rw [wantedA_sound hr hw]; simp)]
  refine ⟨fun _ _ => trivial, wpListIn_mono (fun _ _ _ h => h.after (.refl σ)) rest _ _ (hk ro base w0 σ w _ ho S ?_)⟩
  cases hd : o.dst with
  | none => exact hr
  | some t => exact hr.del t undef

theorem AO_call {ops : Array Oper} {Q : Env → AH → Prop} {o : Oper} {rest : List Oper} {f : FuncId} {args : List AV} (hw : wantedA ops e o = some true) (hc : opCall P (oval e) o.op = some (f, args)) (hd : dstOk nt o.dst = true)
    (h : AC P f args H fun v H' => AO P nt ops rest (putDst e o.dst (some v)) H' Q) : AO P nt ops (o :: rest) e H Q := fun ro base w0 σ w a ho S hr => by
  refine wpListIn_wanted (wantedA_sound hr hw) (oper_of (opCall_nd hc) ?_)
  obtain ⟨cargs, h1, h2⟩ := opCall_sound (oval_rel hr) hc
  rw [h2 w]
  simp only [Oper.uponIn]
  refine ⟨fun h => by simp [fc, Fence.wide] at h, fc_calls ((h base w0 σ w cargs S h1).mono ?_)⟩
  rintro en w' ⟨c, σ', v, H', rfl, g2, g3, g4, g5⟩
  exact wpListIn_mono (fun _ _ _ h => h.after g2) rest _ _ (g5 ro base w0 σ' w' _ (ho.mono g2) g3 ((hr.mono g2).putDst hd (fun u' hu => by cases hu; exact g4)))

theorem AW_region {id : Nat} {ops : Array Oper} {Q : Ex → Env → AH → Prop} (ks : List Nat) (h : AO P nt ops ops.toList e H fun e' H' => Q .normal (ekeep ks e') H') : AW P nt (.region id ops false) e H Q := fun ro base w0 σ w a ho S hr => by
  refine wpIn_region_list (wpListIn_mono ?_ _ _ _ (h ro base w0 σ w a ho S hr))
  rintro ex a' w' ⟨x, σ', e', H', rfl, h2, h3, h4, hm, rfl, h5⟩
  exact ⟨.normal, σ', _, H', rfl, h2, h3, h4.keep ks, hm, h5⟩
end
end Go.Proofs.Ytjfmiohgkcjdnaa.AX
