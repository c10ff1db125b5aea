/- A plain reading of runs: stepping through a text whose values are named. -/
import Derived.Test.YtjfmiohgkcjdnaaAxN
namespace Go.Proofs.Ytjfmiohgkcjdnaa.AX
open Go Go.RowKit

structure Dep {α : Sort _} (x : α) : Type where
def holdQ {α : Sort _} (x : α) (_ : Dep x) : α := x
@[simp] theorem s_holdQ {β γ : Type} (f : β → γ → Prop) (d : Dep f) (b : β) (c : γ) : holdQ f d b c = f b c := rfl

def wantS : Option Bool → Prop → Prop → Prop
  | some b, A, B => (b = true → A) ∧ (b = false → B)
  | none, _, _ => False
def resS : Option (Option AV × AH) → (Option AV → AH → Prop) → Prop
  | some (v, H), K => K v H
  | none, _ => False
def callS : Option (FuncId × List AV) → (FuncId → List AV → Prop) → Prop
  | some (f, args), K => K f args
  | none, _ => False
/-- What an operation calls: a function, or a round. -/
def callT (P : Program) (H : AH) (ρ : Operand → AV) (o : Op) (K : AV → AH → Prop) : Prop := match opYld ρ o with
  | some (r, args) => AYld P r args H K
  | none => callS (opCall P ρ o) fun f args => AC P f args H K
def condS : AV → Prop → Prop → Prop
  | .bool t, A, B => (t = true → A) ∧ (t = false → B)
  | _, _, _ => False

/-- A guard's value; what was left out is known to be so. -/
def guardT (b : AV) (want : Bool) : Option Bool := match b with | .bool b => some (b == want) | .tuple [] => some false | _ => none
def wantedT (ops : Array Oper) (e : Env) (o : Oper) : Option Bool :=
  match o.guard with
  | none => some true
  | some (j, want) =>
    match (ops[j]?).bind (·.dst) with
    | none => none
    | some t => guardT (eget e t) want
def putSkip (e : Env) : Option Tmp → Env
  | none => e
  | some t => eset e t (.tuple [])

def wpO (P : Program) (nt : Nat) (ops : Array Oper) : List Oper → Env → AH → (Env → AH → Prop) → Prop
  | [], e, H, K => K e H
  | o :: rest, e, H, K =>
    wantS (wantedT ops e o)
      (dstOk nt o.dst = true ∧
        if isFnCall o.op then callT P H (oval e) o.op fun v H' => wpO P nt ops rest (putDst e o.dst (some v)) H' K
        else resS (execN P (oval e) H o.op) fun v H' => wpO P nt ops rest (putDst e o.dst v) H' K)
      (wpO P nt ops rest (putSkip e o.dst) H K)

def thenC (K : Env → AH → Prop) (Q : Ex → Env → AH → Prop) : Ex → Env → AH → Prop
  | .normal, e, H => K e H
  | x, e, H => Q x e H

def wpC (P : Program) (nt : Nat) (ks : List Nat) : Code → Env → AH → (Ex → Env → AH → Prop) → Prop
  | .skip, e, H, Q => Q .normal e H
  | .label _, e, H, Q => Q .normal e H
  | .region id ops draw, e, H, Q => if draw then AW P nt (.region id ops true) e H Q else wpO P nt ops ops.toList e H fun e H => Q .normal (ekeep ks e) H
  | .seq a b, e, H, Q => wpC P nt ks a e H (thenC (fun e H => wpC P nt ks b e H Q) Q)
  | .cond x a b, e, H, Q => condS (oval e x) (wpC P nt ks a e H Q) (wpC P nt ks b e H Q)
  | .block id c, e, H, Q => wpC P nt ks c e H (Out id Q)
  | .loop c, e, H, Q => AW P nt (.loop c) e H Q
  | .exit i, e, H, Q => Q (.exit i) e H
  | .goto i, e, H, Q => Q (.goto i) e H
  | .ret, e, H, Q => Q .ret e H
  | _, _, _, _ => False

section
variable {P : Program} {nt : Nat} {ks : List Nat} {ops : Array Oper}

theorem wantedT_true {e : Env} {o : Oper} (h : wantedT ops e o = some true) : wantedA ops e o = some true := by
  unfold wantedT at h
  unfold wantedA
  split at h
  · rename_i hg; rw [hg]
  · rename_i j want hg
    rw [hg]
    simp only []
    split at h
    · cases h
    · rename_i t ht
      rw [ht]
      simp only []
      cases hv : eget e t with
      | bool b => rw [hv] at h; exact h
      | tuple l => rw [hv] at h; cases l <;> simp [guardT] at h
      | _ => rw [hv] at h; simp [guardT] at h
theorem wantedT_false {e : Env} {σ : Inj} {a : Act} (hr : ERel σ nt e a) {o : Oper} (h : wantedT ops e o = some false) : Region.wanted o (yielded ops a.tmps) = false := by
  unfold wantedT at h
  split at h
  · cases h
  · rename_i j want hg
    split at h
    · cases h
    · rename_i t ht
      cases hv : eget e t with
      | bool b =>
        refine wantedA_sound hr ?_
        unfold wantedA
        rw [hg]
        simp only [ht, hv]
        rw [hv] at h; exact h
      | tuple l =>
        cases l with
        | cons x l => rw [hv] at h; simp [guardT] at h
        | nil =>
          have h2 := hr.2.2 t
          rw [hv] at h2
          have hne : ∀ b, a.tmps[t]? ≠ some (.bool b) := by
            intro b hb
            rw [Array.getD_eq_getD_getElem?, hb] at h2
            simp at h2
            cases h2
          unfold Region.wanted
          rw [hg]
          simp only [yielded, ht]
          cases hx : a.tmps[t]? with
          | none => simp [hx]
          | some u =>
            cases u with
            | bool b => exact absurd hx (hne b)
            | _ => simp [hx]
      | _ => rw [hv] at h; simp [guardT] at h
theorem ERel.putSkip {e : Env} {σ : Inj} {a : Act} (h : ERel σ nt e a) (d : Option Tmp) : ERel σ nt (AX.putSkip e d) (a.put d undef) := by
  cases d with
  | none => exact h
  | some t =>
    refine ⟨by simp [Act.put, h.1], h.2.1, fun s => ?_⟩
    show RelV σ (eget (eset e t (.tuple [])) s) _
    rw [eget_eset]
    by_cases hs : t = s
    · subst hs
      simp only [if_true, Act.put, Array.getD_eq_getD_getElem?]
      by_cases hlt : t < a.tmps.size
      · simp [hlt]; exact .tuple .nil
      · simp [hlt]; exact .tuple .nil
    · have := h.2.2 s
      simp only [hs, if_false, Act.put]
      simpa [Array.getD_eq_getD_getElem?, Array.getElem?_setIfInBounds_ne hs] using this
theorem AO_skipT {e : Env} {H : AH} {Q : Env → AH → Prop} {o : Oper} {rest : List Oper} (hw : wantedT ops e o = some false) (hk : AO P nt ops rest (putSkip e o.dst) H Q) : AO P nt ops (o :: rest) e H Q := fun ro base w0 σ w a ho S hr => by
  unfold wpListIn
  rw [if_neg (by rw [wantedT_false hr hw]; simp)]
  exact ⟨fun _ _ => trivial, wpListIn_mono (fun _ _ _ h => h.after (.refl σ)) rest _ _ (hk ro base w0 σ w _ ho S (hr.putSkip o.dst))⟩

theorem wpO_sound : ∀ {l : List Oper} {e : Env} {H : AH} {K : Env → AH → Prop}, wpO P nt ops l e H K → AO P nt ops l e H K
  | [], e, H, K, h => AO_nil h
  | o :: rest, e, H, K, h => by
    simp only [wpO] at h
    cases hw : wantedT ops e o with
    | none => rw [hw] at h; exact h.elim
    | some b =>
      rw [hw] at h
      cases b with
      | false => exact AO_skipT hw (wpO_sound (h.2 rfl))
      | true =>
        have hw := wantedT_true hw
        obtain ⟨hd, h⟩ := h.1 rfl
        split at h
        · unfold callT at h
          split at h
          · rename_i r args hy
            refine AO_yield hw hy hd ?_
            obtain ⟨pe, L, q1, q2, q3, q4⟩ := h
            refine ⟨pe, L, q1, q2, q3, q4.mono ?_⟩
            rintro x e1 H2 ⟨q5, pe1, L1, q6, q7⟩
            refine ⟨q5, pe1, L1, q6, q7.mono ?_⟩
            rintro x2 e2 H3 ⟨s2, pe2, L2, q8, q9⟩
            exact ⟨s2, pe2, L2, q8, wpO_sound q9⟩
          · cases hc : opCall P (oval e) o.op with
            | none => rw [hc] at h; exact h.elim
            | some x =>
              obtain ⟨f, args⟩ := x
              rw [hc] at h
              exact AO_call hw hc hd (AC.mono h fun _ _ hk => wpO_sound hk)
        · cases hx : execN P (oval e) H o.op with
          | none => rw [hx] at h; exact h.elim
          | some x =>
            obtain ⟨v, H'⟩ := x
            rw [hx] at h
            exact AO_op hw hx hd (wpO_sound h)

theorem wpC_sound : ∀ {c : Code} {e : Env} {H : AH} {Q : Ex → Env → AH → Prop}, wpC P nt ks c e H Q → AW P nt c e H Q := by
  intro c
  induction c with
  | skip => intro e H Q h; exact AW_skip h
  | label l => intro e H Q h; exact AW_label h
  | region id ops draw =>
    intro e H Q h
    simp only [wpC] at h
    cases draw with
    | true => exact h
    | false => exact AW_region ks (wpO_sound h)
  | seq a b iha ihb =>
    intro e H Q h
    refine AW_seq (AW.mono (iha h) ?_)
    intro x e' H' hx
    cases x with
    | normal => exact ihb hx
    | exit i => exact hx
    | goto i => exact hx
    | ret => exact hx
  | cond x a b iha ihb =>
    intro e H Q h
    simp only [wpC] at h
    cases hv : oval e x with
    | bool t => rw [hv] at h; exact AW_cond_split hv (fun ht => iha (h.1 ht)) (fun ht => ihb (h.2 ht))
    | _ => rw [hv] at h; exact h.elim
  | block id c ih => intro e H Q h; exact AW_block (ih h)
  | loop c ih => intro e H Q h; exact h
  | exit i => intro e H Q h; exact AW_exit h
  | goto i => intro e H Q h; exact AW_goto h
  | ret => intro e H Q h; exact AW_ret h
  | rangeFunc => intro e H Q h; exact h.elim
  | scope => intro e H Q h; exact h.elim
  | refuse => intro e H Q h; exact h.elim

/-! ### Equations for the stepping -/
section
@[congr] theorem c_want {x y : Option Bool} {A B : Prop} (h : x = y) : wantS x A B = wantS y A B := by rw [h]
@[congr] theorem c_res {x y : Option (Option AV × AH)} {K : Option AV → AH → Prop} (h : x = y) : resS x K = resS y K := by rw [h]
@[congr] theorem c_call {x y : Option (FuncId × List AV)} {K : FuncId → List AV → Prop} (h : x = y) : callS x K = callS y K := by rw [h]
@[congr] theorem c_AYld {r : Nat} {as bs : List AV} {H H' : AH} {Q : AV → AH → Prop} (h : as = bs) (h' : H = H') : AYld P r as H Q = AYld P r bs H' Q := by rw [h, h']
@[simp] theorem callT_inv {H : AH} {ρ : Operand → AV} {g : Operand} {n : String} {as : Array Operand} {ts : Array TypeId} {K : AV → AH → Prop} : callT P H ρ (.call ⟨.invoke g n, as, ts⟩) K = callS (opCall P ρ (.call ⟨.invoke g n, as, ts⟩)) fun f args => AC P f args H K := rfl
@[simp] theorem callT_fn {H : AH} {e : Env} {g : FuncId} {as : Array Operand} {ts : Array TypeId} {K : AV → AH → Prop} : callT P H (oval e) (.call ⟨.value (.func g), as, ts⟩) K = callS (opCall P (oval e) (.call ⟨.value (.func g), as, ts⟩)) fun f args => AC P f args H K := rfl
/-- What a temporary that is called is. -/
def callU (P : Program) (H : AH) (g : AV) (as : List AV) (K : AV → AH → Prop) : Prop := match g with
  | .yld r => AYld P r as H K
  | .func (.func f) first cap => okFn P f = true ∧ AC P f (first ++ as ++ cap) H K
  | _ => False
@[congr] theorem c_callU {H H' : AH} {g g' : AV} {as bs : List AV} {K : AV → AH → Prop} (h : H = H') (h1 : g = g') (h2 : as = bs) : callU P H g as K = callU P H' g' bs K := by rw [h, h1, h2]
@[simp] theorem callU_y {H : AH} {r : Nat} {as : List AV} {K : AV → AH → Prop} : callU P H (.yld r) as K = AYld P r as H K := rfl
@[simp] theorem callU_f {H : AH} {f : FuncId} {first cap as : List AV} {K : AV → AH → Prop} : callU P H (.func (.func f) first cap) as K = (okFn P f = true ∧ AC P f (first ++ as ++ cap) H K) := rfl
@[simp] theorem callT_tmp {H : AH} {e : Env} {t : Tmp} {as : Array Operand} {ts : Array TypeId} {K : AV → AH → Prop} : callT P H (oval e) (.call ⟨.value (.tmp t), as, ts⟩) K = callU P H (eget e t) (as.toList.map (oval e)) K := by
  simp only [callT, opYld, opCall, oval, callU]
  generalize eget e t = g
  cases g <;> try rfl
  rename_i fn first cap
  cases fn <;> try rfl
  rename_i f
  simp only []
  by_cases hok : okFn P f = true
  · simp [callS, hok]
  · simp [callS, hok]
@[congr] theorem c_cond {x y : AV} {A B : Prop} (h : x = y) : condS x A B = condS y A B := by rw [h]
@[congr] theorem c_AC {f : FuncId} {as bs : List AV} {H H' : AH} {Q : AV → AH → Prop} (h : as = bs) (h' : H = H') : AC P f as H Q = AC P f bs H' Q := by rw [h, h']
variable {ρ : Operand → AV} {H : AH} {e : Env} {A B : Prop}
@[simp] theorem s_want_t : wantS (some true) A B = A := by simp [wantS]
@[simp] theorem s_want_f : wantS (some false) A B = B := by simp [wantS]
@[simp] theorem s_want_d (p : Prop) [Decidable p] : wantS (some (decide p)) A B = ((p → A) ∧ (¬ p → B)) := by simp [wantS]
@[simp] theorem s_want_n (p : Prop) [Decidable p] : wantS (some (!decide p)) A B = ((p → B) ∧ (¬ p → A)) := by simp [wantS]; exact And.comm
@[simp] theorem s_res (v : Option AV) (K : Option AV → AH → Prop) : resS (some (v, H)) K = K v H := rfl
@[simp] theorem s_call (f : FuncId) (as : List AV) (K : FuncId → List AV → Prop) : callS (some (f, as)) K = K f as := rfl
@[simp] theorem s_cond (b : Bool) : condS (.bool b) A B = ((b = true → A) ∧ (b = false → B)) := rfl
@[simp] theorem s_nil (K : Env → AH → Prop) : wpO P nt ops [] e H K = K e H := rfl
def guardVal (b : AV) (want : Bool) : Option Bool := match b with | .bool b => some (b == want) | _ => none
@[simp] theorem s_gT_t (b : Bool) : guardT (.bool b) true = some b := by simp [guardT]
@[simp] theorem s_gT_f (b : Bool) : guardT (.bool b) false = some (!b) := by simp [guardT]
@[simp] theorem s_gT_s (w : Bool) : guardT (.tuple []) w = some false := rfl
@[simp] theorem s_pS_some {e : Env} (t : Nat) : putSkip e (some t) = eset e t (.tuple []) := rfl
@[simp] theorem s_pS_none {e : Env} : putSkip e none = e := rfl
@[simp] theorem s_guard_t (b : Bool) : guardVal (.bool b) true = some b := by simp [guardVal]
@[simp] theorem s_guard_f (b : Bool) : guardVal (.bool b) false = some (!b) := by simp [guardVal]
def slotOf (ops : Array Oper) (j : Nat) : Option Tmp := (ops[j]?).bind (·.dst)
def slotV (e : Env) : Option Tmp → AV
  | some t => eget e t
  | none => .undef
@[simp] theorem s_slotV (e : Env) (t : Tmp) : slotV e (some t) = eget e t := rfl
@[congr] theorem c_slotOf {j j' : Nat} (h : j = j') : slotOf ops j = slotOf ops j' := by rw [h]
@[simp] theorem s_slot0 (d : Option Tmp) (op : Op) (t : TypeId) (p : String) (af : Array Edge) (g : Option (Nat × Bool)) (l : List Oper) : slotOf (⟨d, op, t, p, af, g⟩ :: l).toArray 0 = d := by simp [slotOf]
@[simp] theorem s_slotS (o : Oper) (l : List Oper) (j : Nat) : slotOf (o :: l).toArray (j + 1) = slotOf l.toArray j := by simp [slotOf]
@[congr] theorem c_wpO {l : List Oper} {e e' : Env} {H H' : AH} {K : Env → AH → Prop} (h : e = e') (h' : H = H') : wpO P nt ops l e H K = wpO P nt ops l e' H' K := by rw [h, h']
@[simp] theorem s_consN (d : Option Tmp) (op : Op) (t : TypeId) (p : String) (af : Array Edge) (rest : List Oper) (K : Env → AH → Prop) : wpO P nt ops (⟨d, op, t, p, af, none⟩ :: rest) e H K =
      (dstOk nt d = true ∧
        if isFnCall op then callT P H (oval e) op (holdQ (fun v H' => wpO P nt ops rest (putDst e d (some v)) H' K) ⟨⟩)
        else resS (execN P (oval e) H op) (holdQ (fun v H' => wpO P nt ops rest (putDst e d v) H' K) ⟨⟩)) := by
  simp only [wpO, wantedT, wantS, holdQ]
  simp
@[simp] theorem s_consG (d : Option Tmp) (op : Op) (t : TypeId) (p : String) (af : Array Edge) (j : Nat) (want : Bool) (rest : List Oper) (K : Env → AH → Prop) : wpO P nt ops (⟨d, op, t, p, af, some (j, want)⟩ :: rest) e H K = wantS (guardT (slotV e (slotOf ops j)) want)
      (dstOk nt d = true ∧
        if isFnCall op then callT P H (oval e) op (holdQ (fun v H' => wpO P nt ops rest (putDst e d (some v)) H' K) ⟨⟩)
        else resS (execN P (oval e) H op) (holdQ (fun v H' => wpO P nt ops rest (putDst e d v) H' K) ⟨⟩))
      (wpO P nt ops rest (putSkip e d) H K) := by
  have : wantedT ops e ⟨d, op, t, p, af, some (j, want)⟩ = guardT (slotV e (slotOf ops j)) want := by
    unfold wantedT slotOf slotV
    simp only []
    cases (ops[j]?).bind (·.dst) <;> rfl
  rw [wpO, this]
  rfl
@[simp] theorem s_then_n (K : Env → AH → Prop) (Q : Ex → Env → AH → Prop) : thenC K Q .normal e H = K e H := rfl
@[simp] theorem s_then_e (K : Env → AH → Prop) (Q : Ex → Env → AH → Prop) (i : Nat) : thenC K Q (.exit i) e H = Q (.exit i) e H := rfl
@[simp] theorem s_then_g (K : Env → AH → Prop) (Q : Ex → Env → AH → Prop) (i : Nat) : thenC K Q (.goto i) e H = Q (.goto i) e H := rfl
@[simp] theorem s_then_r (K : Env → AH → Prop) (Q : Ex → Env → AH → Prop) : thenC K Q .ret e H = Q .ret e H := rfl
@[simp] theorem s_out_n (id : Nat) (Q : Ex → Env → AH → Prop) : Out id Q .normal e H = Q .normal e H := rfl
@[simp] theorem s_out_e (id i : Nat) (Q : Ex → Env → AH → Prop) : Out id Q (.exit i) e H = if i = id then Q .normal e H else Q (.exit i) e H := rfl
@[simp] theorem s_out_g (id i : Nat) (Q : Ex → Env → AH → Prop) : Out id Q (.goto i) e H = Q (.goto i) e H := rfl
@[simp] theorem s_out_r (id : Nat) (Q : Ex → Env → AH → Prop) : Out id Q .ret e H = Q .ret e H := rfl
@[simp] theorem s_skip (Q : Ex → Env → AH → Prop) : wpC P nt ks .skip e H Q = Q .normal e H := rfl
@[simp] theorem s_region (id : Nat) (Q : Ex → Env → AH → Prop) : wpC P nt ks (.region id ops false) e H Q = wpO P nt ops ops.toList e H fun e H => Q .normal (ekeep ks e) H := rfl
@[simp] theorem s_regionD (id : Nat) (Q : Ex → Env → AH → Prop) : wpC P nt ks (.region id ops true) e H Q = AW P nt (.region id ops true) e H Q := rfl
@[simp] theorem s_seq (a b : Code) (Q : Ex → Env → AH → Prop) : wpC P nt ks (.seq a b) e H Q = wpC P nt ks a e H (thenC (fun e H => wpC P nt ks b e H Q) Q) := rfl
@[simp] theorem s_condC (x : Operand) (a b : Code) (Q : Ex → Env → AH → Prop) : wpC P nt ks (.cond x a b) e H Q = condS (oval e x) (wpC P nt ks a e H Q) (wpC P nt ks b e H Q) := rfl
@[simp] theorem s_block (id : Nat) (a : Code) (Q : Ex → Env → AH → Prop) : wpC P nt ks (.block id a) e H Q = wpC P nt ks a e H (Out id Q) := rfl
@[simp] theorem s_loop (a : Code) (Q : Ex → Env → AH → Prop) : wpC P nt ks (.loop a) e H Q = AW P nt (.loop a) e H Q := rfl
@[simp] theorem s_exit (i : Nat) (Q : Ex → Env → AH → Prop) : wpC P nt ks (.exit i) e H Q = Q (.exit i) e H := rfl
@[simp] theorem s_goto (i : Nat) (Q : Ex → Env → AH → Prop) : wpC P nt ks (.goto i) e H Q = Q (.goto i) e H := rfl
@[simp] theorem s_ret (Q : Ex → Env → AH → Prop) : wpC P nt ks .ret e H Q = Q .ret e H := rfl

/-- A statement, and what follows it. -/
theorem AW_seqR {id : Nat} {l : List Oper} {b : Code} {Q : Ex → Env → AH → Prop} (ks : List Nat) (h : ∀ K : Env → AH → Prop, (∀ e' H', AW P nt b e' H' Q → K e' H') → wpO P nt l.toArray l e H fun e H => K (ekeep ks e) H) : AW P nt (.seq (.region id l.toArray false) b) e H Q :=
  AW_seq (AW_region ks (by
    have := h (fun e' H' => Then P nt b Q .normal e' H') (fun e' H' h => h)
    exact wpO_sound this))
theorem AW_regR {id : Nat} {l : List Oper} {Q : Ex → Env → AH → Prop} (ks : List Nat) (h : ∀ K : Env → AH → Prop, (∀ e' H', Q .normal e' H' → K e' H') → wpO P nt l.toArray l e H fun e H => K (ekeep ks e) H) : AW P nt (.region id l.toArray false) e H Q :=
  AW_region ks (wpO_sound (h (fun e' H' => Q .normal e' H') (fun _e' _H' h => h)))
theorem AW_seqK {a b : Code} {Q : Ex → Env → AH → Prop} (h : ∀ K : Env → AH → Prop, (∀ e' H', AW P nt b e' H' Q → K e' H') → AW P nt a e H (thenC K Q)) : AW P nt (.seq a b) e H Q :=
  AW_seq ((h (fun e' H' => AW P nt b e' H' Q) (fun e' H' h => h)).mono fun x e' H' hx => by cases x <;> exact hx)
theorem AW_condD {x : Operand} {c d : Code} {p : Prop} [Decidable p] {Q : Ex → Env → AH → Prop} (hc : oval e x = .bool (decide p)) (h1 : p → AW P nt c e H Q) (h2 : ¬ p → AW P nt d e H Q) : AW P nt (.cond x c d) e H Q :=
  AW_cond_split hc (fun h => h1 (of_decide_eq_true h)) (fun h => h2 (of_decide_eq_false h))

-- environments
@[simp] theorem s_oval_tmp (t : Nat) : oval e (.tmp t) = eget e t := rfl
@[simp] theorem s_oval_global (g : Nat) : oval e (.global g) = .gptr g 0 := rfl
@[simp] theorem s_oval_func (f : Nat) : oval e (.func f) = .func (.func f) [] [] := rfl
@[simp] theorem s_oval_int (k : IntKind) (n : Int) : oval e (.const (.int k n)) = .int k n := rfl
@[simp] theorem s_oval_bool (b : Bool) : oval e (.const (.bool b)) = .bool b := rfl
@[simp] theorem s_oval_str (s : ByteArray) : oval e (.const (.string s)) = .str s.data.toList := rfl
@[simp] theorem s_oval_nilptr : oval e (.const (.pointer none)) = .nilptr := rfl
@[simp] theorem s_oval_nilslice : oval e (.const (.slice none 0 0)) = .slice none 0 0 0 1 false := rfl
@[simp] theorem s_oval_nilmap : oval e (.const (.map none)) = .nilmap := rfl
@[simp] theorem s_oval_nilfunc : oval e (.const .nilFunc) = .nilfunc := rfl
@[simp] theorem s_oval_niliface : oval e (.const .nilIface) = .niliface := rfl
@[simp] theorem s_oval_agg (cs : List Value) : oval e (.const (.agg cs.toArray)) = .agg (cs.map (absV 2)) := by simp [oval, absV]
@[simp] theorem s_abs_int (n : Nat) (k : IntKind) (m : Int) : absV n (.int k m) = .int k m := by cases n <;> rfl
@[simp] theorem s_abs_bool (n : Nat) (b : Bool) : absV n (.bool b) = .bool b := by cases n <;> rfl
@[simp] theorem s_abs_nilslice (n : Nat) : absV n (.slice none 0 0) = .slice none 0 0 0 1 false := by cases n <;> rfl
@[simp] theorem s_abs_niliface (n : Nat) : absV n .nilIface = .niliface := by cases n <;> rfl
@[simp] theorem s_abs_nilptr (n : Nat) : absV n (.pointer none) = .nilptr := by cases n <;> rfl
@[simp] theorem s_abs_str (n : Nat) (s : ByteArray) : absV n (.string s) = .str s.data.toList := by cases n <;> rfl
@[simp] theorem s_eget_nil (t : Nat) : eget [] t = .undef := rfl
@[simp] theorem s_eget_cons (k t : Nat) (v : AV) (l : Env) : eget ((k, v) :: l) t = if k = t then v else eget l t := rfl
@[simp] theorem s_eset_nil (t : Nat) (v : AV) : eset [] t v = [(t, v)] := rfl
@[simp] theorem s_eset_cons (k t : Nat) (u v : AV) (l : Env) : eset ((k, u) :: l) t v = if t < k then (t, v) :: (k, u) :: l else if k = t then (t, v) :: l else (k, u) :: eset l t v := rfl
@[simp] theorem s_edel_nil (t : Nat) : edel [] t = [] := rfl
@[simp] theorem s_edel_cons (k t : Nat) (u : AV) (l : Env) : edel ((k, u) :: l) t = if k = t then edel l t else (k, u) :: edel l t := rfl
@[simp] theorem s_ekeep_nil : ekeep ks [] = [] := rfl
@[simp] theorem s_ekeep_cons (k : Nat) (u : AV) (l : Env) : ekeep ks ((k, u) :: l) = if ks.contains k then (k, u) :: ekeep ks l else ekeep ks l := rfl
@[simp] theorem s_put_some (t : Nat) (v : AV) : putDst e (some t) (some v) = eset e t v := rfl
@[simp] theorem s_put_none (t : Nat) : putDst e (some t) none = edel e t := rfl
@[simp] theorem s_put_no (v : Option AV) : putDst e none v = e := rfl
@[simp] theorem s_dst_some (t : Nat) : dstOk nt (some t) = decide (t < nt) := rfl
@[simp] theorem s_dst_none : dstOk nt none = true := rfl
@[simp] theorem s_args_nil (k : Nat) : argsEnv k [] = [] := rfl
@[simp] theorem s_args_cons (k : Nat) (v : AV) (l : List AV) : argsEnv k (v :: l) = (k, v) :: argsEnv (k + 1) l := rfl

-- which
@[simp] theorem s_isc_value (g : Operand) (as : Array Operand) (ts : Array TypeId) : isFnCall (.call ⟨.value g, as, ts⟩) = true := rfl
@[simp] theorem s_isc_invoke (g : Operand) (n : String) (as : Array Operand) (ts : Array TypeId) : isFnCall (.call ⟨.invoke g n, as, ts⟩) = true := rfl
@[simp] theorem s_isc_builtin (b : Builtin) (as : Array Operand) (ts : Array TypeId) : isFnCall (.call ⟨.builtin b, as, ts⟩) = false := rfl
@[simp] theorem s_isc_move (x : Operand) : isFnCall (.move x) = false := rfl
@[simp] theorem s_isc_assign (x : Operand) : isFnCall (.assign x) = false := rfl
@[simp] theorem s_isc_pick (c a b : Operand) : isFnCall (.pick c a b) = false := rfl
@[simp] theorem s_isc_build (t : TypeId) (ps : Array (Nat × Operand)) : isFnCall (.build t ps) = false := rfl
@[simp] theorem s_isc_nilCheck (x : Operand) : isFnCall (.nilCheck x) = false := rfl
@[simp] theorem s_isc_binOp (op : BinOp) (t : TypeId) (x y : Operand) (u : TypeId) : isFnCall (.binOp op t x y u) = false := rfl
@[simp] theorem s_isc_unOp (op : UnOp) (t : TypeId) (x : Operand) : isFnCall (.unOp op t x) = false := rfl
@[simp] theorem s_isc_convert (a b : TypeId) (x : Operand) : isFnCall (.convert a b x) = false := rfl
@[simp] theorem s_isc_mkIface (t : TypeId) (x : Operand) : isFnCall (.makeInterface t x) = false := rfl
@[simp] theorem s_isc_mkFunc (f : Fn) (a b : Array Operand) : isFnCall (.makeFunc f a b) = false := rfl
@[simp] theorem s_isc_slice (t : TypeId) (x : Operand) (a b c : Option Operand) : isFnCall (.slice t x a b c) = false := rfl
@[simp] theorem s_isc_fieldAddr (t : TypeId) (x : Operand) (f : Nat) : isFnCall (.fieldAddr t x f) = false := rfl
@[simp] theorem s_isc_field (t : TypeId) (x : Operand) (f : Nat) : isFnCall (.field t x f) = false := rfl
@[simp] theorem s_isc_indexAddr (t : TypeId) (x i : Operand) : isFnCall (.indexAddr t x i) = false := rfl
@[simp] theorem s_isc_index (t : TypeId) (x i : Operand) : isFnCall (.index t x i) = false := rfl
@[simp] theorem s_isc_assert (x : Operand) (a b : TypeId) (ok : Bool) : isFnCall (.typeAssert x a b ok) = false := rfl
@[simp] theorem s_isc_extract (x : Operand) (i : Nat) : isFnCall (.extract x i) = false := rfl
@[simp] theorem s_isc_load (t : TypeId) (x : Operand) : isFnCall (.load t x) = false := rfl
@[simp] theorem s_isc_store (t : TypeId) (x y : Operand) : isFnCall (.store t x y) = false := rfl
@[simp] theorem s_isc_alloc (t : TypeId) : isFnCall (.alloc t) = false := rfl
@[simp] theorem s_isc_box (t : TypeId) (x : Operand) : isFnCall (.box t x) = false := rfl
@[simp] theorem s_isc_buildSlice (t : TypeId) (n : Nat) (ps : Array (Nat × Operand)) : isFnCall (.buildSlice t n ps) = false := rfl
@[simp] theorem s_isc_lookup (t : TypeId) (x i : Operand) (ok : Bool) : isFnCall (.lookup t x i ok) = false := rfl
@[simp] theorem s_isc_mapUpdate (t : TypeId) (x i v : Operand) : isFnCall (.mapUpdate t x i v) = false := rfl
@[simp] theorem s_isc_makeMap (t : TypeId) (r : Option Operand) : isFnCall (.makeMap t r) = false := rfl
@[simp] theorem s_isc_makeSlice (t : TypeId) (x y : Operand) : isFnCall (.makeSlice t x y) = false := rfl

@[simp] theorem s_opcall (g : FuncId) (as : Array Operand) (ts : Array TypeId) : opCall P ρ (.call ⟨.value (.func g), as, ts⟩) = (match ρ (.func g) with | .func (.func f) first cap => if okFn P f then some (f, first ++ as.toList.map ρ ++ cap) else none | _ => none) := rfl
theorem opcall_invoke {ρ : Operand → AV} {x : Operand} {name : String} {as : Array Operand} {ts : Array TypeId} {v : AV} {t : TypeId} {f : FuncId} (ok : (match P.info? t, P.underlying t with
      | some i, some d =>
        match i.methods.find? (·.name == name) with
        | some m =>
          match m.path.toList, m.func with
          | [], some (g, p) => okFn P g && (p == isPtrD d) && (g == f)
          | _, _ => false
        | none => false
      | _, _ => false) = true) (h : ρ x = .iface t v) : opCall P ρ (.call ⟨.invoke x name, as, ts⟩) = some (f, v :: as.toList.map ρ) := by
  simp only [opCall, h]
  split at ok
  · rename_i i d h1 h2
    split at ok
    · rename_i m h3
      split at ok
      · rename_i g p h4 h5
        simp only [Bool.and_eq_true, beq_iff_eq] at ok
        have e := ok.1.1
        rw [ok.2] at e
        simp [h1, h2, h3, h4, h5, e, ok.1.2, ok.2]
      · cases ok
    · cases ok
  · cases ok

-- what they give
def val1 (H : AH) : Option AV → Option (Option AV × AH)
  | some v => some (some v, H)
  | none => none
@[simp] theorem s_val1 (v : AV) : val1 H (some v) = some (some v, H) := rfl
theorem map_val1 (x : Option AV) : (x.map fun v => (some v, H)) = val1 H x := by cases x <;> rfl
@[simp] theorem x_move (x : Operand) : execN P ρ H (.move x) = some (some (ρ x), H) := rfl
@[simp] theorem x_assign (x : Operand) : execN P ρ H (.assign x) = some (some (ρ x), H) := rfl
def pickV (c a b : AV) : Option AV := match c with | .bool t => some (if t then a else b) | _ => none
@[simp] theorem s_pick (t : Bool) (a b : AV) : pickV (.bool t) a b = some (if t then a else b) := rfl
@[simp] theorem x_pick (c a b : Operand) : execN P ρ H (.pick c a b) = val1 H (pickV (ρ c) (ρ a) (ρ b)) := by rw [← map_val1]; rfl
@[simp] theorem x_build (t : TypeId) (ps : Array (Nat × Operand)) : execN P ρ H (.build t ps) = val1 H ((aBuilt P t (ps.toList.map fun x => (x.1, ρ x.2))).map .agg) := by rw [← map_val1]; rfl
@[simp] theorem x_nilCheck (x : Operand) : execN P ρ H (.nilCheck x) = val1 H (aNil (ρ x)) := by rw [← map_val1]; rfl
def binV (P : Program) (op : BinOp) (t : TypeId) (lit : Bool) (x y : AV) : Option AV := match aBin op x y with | some v => some v | none => match aCmp P op t lit x y with | some v => some v | none => aEqA P op t x y
@[simp] theorem x_binOp (op : BinOp) (t u : TypeId) (x y : Operand) : execN P ρ H (.binOp op t x y u) = val1 H (binV P op t (litOp x || litOp y) (ρ x) (ρ y)) := by rw [← map_val1]; rfl
@[simp] theorem x_unOp (op : UnOp) (t : TypeId) (x : Operand) : execN P ρ H (.unOp op t x) = val1 H (aUn op (ρ x)) := by rw [← map_val1]; rfl
@[simp] theorem x_convert (a b : TypeId) (x : Operand) : execN P ρ H (.convert a b x) = val1 H (aConv P a b (ρ x)) := by rw [← map_val1]; rfl
@[simp] theorem x_mkFunc (f : Fn) (a b : Array Operand) : execN P ρ H (.makeFunc f a b) = some (some (.func f (a.toList.map ρ) (b.toList.map ρ)), H) := rfl
@[simp] theorem x_fieldAddr (t : TypeId) (x : Operand) (f : Nat) : execN P ρ H (.fieldAddr t x f) = val1 H (aFieldAddr P t (ρ x) f) := by rw [← map_val1]; rfl
@[simp] theorem x_field (t : TypeId) (x : Operand) (f : Nat) : execN P ρ H (.field t x f) = val1 H (aField P t (ρ x) f) := by rw [← map_val1]; rfl
@[simp] theorem x_indexAddr (t : TypeId) (x i : Operand) : execN P ρ H (.indexAddr t x i) = val1 H (aIndexAddr P t (ρ x) (ρ i)) := by rw [← map_val1]; rfl
@[simp] theorem x_index (t : TypeId) (x i : Operand) : execN P ρ H (.index t x i) = val1 H (aIndex P t (ρ x) (ρ i)) := by rw [← map_val1]; rfl
@[simp] theorem x_assert (x : Operand) (a b : TypeId) (ok : Bool) : execN P ρ H (.typeAssert x a b ok) = val1 H (aAssert P (ρ x) b ok) := by rw [← map_val1]; rfl
def extV (v : AV) (i : Nat) : Option AV := match v with | .tuple vs => vs[i]? | _ => none
@[simp] theorem s_ext (vs : List AV) (i : Nat) : extV (.tuple vs) i = vs[i]? := rfl
@[simp] theorem x_extract (x : Operand) (i : Nat) : execN P ρ H (.extract x i) = val1 H (extV (ρ x) i) := by rw [← map_val1]; rfl
def loadV (P : Program) (t : TypeId) (H : AH) (v : AV) : Option AV := match P.underlying t, P.info? t, v with
  | some d, some i, .ptr r off ver => if isAggD d then (ldn H r ver i.size off).map .agg else ld H r off ver
  | some d, some i, .gptr g off => (gfind H g).bind fun cells => if isAggD d then (takeKnown i.size (cells.drop off)).map .agg else known cells[off]?
  | _, _, _ => none
@[simp] theorem x_load (t : TypeId) (x : Operand) : execN P ρ H (.load t x) = val1 H (loadV P t H (ρ x)) := by rw [← map_val1]; rfl
@[simp] theorem x_box (t : TypeId) (x : Operand) : execN P ρ H (.box t x) = if (ρ x).isU then none else some (some (.ptr H.length 0 0), H ++ [.row (acells (ρ x)) 0 0 false]) := rfl
@[simp] theorem x_alloc (t : TypeId) : execN P ρ H (.alloc t) = (tiOf P t).map fun I => (some (.ptr H.length 0 0), H ++ [.row I.zero 0 0 false]) := rfl

@[simp] theorem x_lookup (t : TypeId) (m x : Operand) (ok : Bool) : execN P ρ H (.lookup t m x ok) = val1 H (aLook P H t (ρ m) (ρ x) ok) := by rw [← map_val1]; rfl
@[simp] theorem x_makeMap (t : TypeId) (r : Option Operand) : execN P ρ H (.makeMap t r) = aMapMake P t (r.map ρ) H := rfl
@[simp] theorem x_mapUpdate (t : TypeId) (m k x : Operand) : execN P ρ H (.mapUpdate t m k x) = (aMapPut P H t (ρ m) (ρ k) (ρ x)).map fun H' => (none, H') := rfl
/-- A map of integers to whatever. -/
def mapL (l : List (Int × AV)) : List (AV × AV) := l.map fun p => (.int .i64 p.1, p.2)
def putL (k : Int) (v : AV) : List (Int × AV) → List (Int × AV)
  | [] => [(k, v)]
  | p :: l => if k == p.1 then (k, v) :: l else p :: putL k v l
theorem mfind_L (k : Int) : ∀ l : List (Int × AV), mfind (.int .i64) (.int .i64 k) (mapL l) = some (l.lookup k)
  | [] => rfl
  | p :: l => by
    simp only [mapL, List.map_cons, mfind, sameKeyA, if_true, List.lookup]
    have := mfind_L k l
    simp only [mapL] at this
    cases h : k == p.1 <;> simp [this]
theorem mput_L (k : Int) (v : AV) : ∀ l : List (Int × AV), mput (.int .i64) (.int .i64 k) v (mapL l) = some (mapL (putL k v l))
  | [] => rfl
  | p :: l => by
    simp only [mapL, List.map_cons, mput, sameKeyA, if_true, putL]
    have := mput_L k v l
    simp only [mapL] at this
    cases h : k == p.1 <;> simp [this]
def MapI (H : AH) (r : Nat) (l : List (Int × AV)) : Prop := H[r]? = some (.map (mapL l))
theorem MapI.row {r : Nat} {l : List (Int × AV)} (h : MapI H r l) : mrow H r = some (mapL l) := by unfold mrow; rw [h]
theorem look_I {t : TypeId} {z : AV} {r : Nat} {l : List (Int × AV)} {k : Int} {ok : Bool} (ht : mapT P t = some (.int .i64, z)) (h : MapI H r l) :
    aLook P H t (.map r) (.int .i64 k) ok = some (match l.lookup k with | some v => lookV ok v true | none => lookV ok z false) := by
  simp only [aLook, ht, keyOkA, decide_true, if_true, h.row, Option.bind_some, mfind_L, Option.map_some]
  cases l.lookup k <;> rfl
theorem put_I {t : TypeId} {z : AV} {r : Nat} {l : List (Int × AV)} {k : Int} {v : AV} (ht : mapT P t = some (.int .i64, z)) (h : MapI H r l) :
    aMapPut P H t (.map r) (.int .i64 k) v = some (H.set r (.map (mapL (putL k v l)))) := by
  simp only [aMapPut, ht, keyOkA, decide_true, if_true, h.row, Option.bind_some, mput_L, Option.map_some]
theorem make_I {t : TypeId} {d : TypeDesc × AV} (ht : mapT P t = some d) : aMapMake P t none H = some (some (.map H.length), H ++ [.map (mapL [])]) := by
  simp [aMapMake, ht, mapL]

-- numbers
section
variable {k : IntKind} {a b : Int} {t : TypeId} {l : Bool}
@[simp] theorem b_add : binV P .add t l (.int k a) (.int k b) = some (.int k (k.wrap (a + b))) := by simp [binV, aBin]
@[simp] theorem b_sub : binV P .sub t l (.int k a) (.int k b) = some (.int k (k.wrap (a - b))) := by simp [binV, aBin]
@[simp] theorem b_mul : binV P .mul t l (.int k a) (.int k b) = some (.int k (k.wrap (a * b))) := by simp [binV, aBin]
@[simp] theorem b_eql : binV P .eql t l (.int k a) (.int k b) = some (.bool (a == b)) := by simp [binV, aBin]
@[simp] theorem b_neq : binV P .neq t l (.int k a) (.int k b) = some (.bool (a != b)) := by simp [binV, aBin]
@[simp] theorem b_lss : binV P .lss t l (.int k a) (.int k b) = some (.bool (decide (a < b))) := by simp [binV, aBin]
@[simp] theorem b_leq : binV P .leq t l (.int k a) (.int k b) = some (.bool (decide (a ≤ b))) := by simp [binV, aBin]
@[simp] theorem b_gtr : binV P .gtr t l (.int k a) (.int k b) = some (.bool (decide (b < a))) := by simp [binV, aBin]
@[simp] theorem b_geq : binV P .geq t l (.int k a) (.int k b) = some (.bool (decide (b ≤ a))) := by simp [binV, aBin]
@[simp] theorem b_quo (h : b ≠ 0) : binV P .quo t l (.int k a) (.int k b) = some (.int k (k.wrap (a.tdiv b))) := by simp [binV, aBin, h]
@[simp] theorem b_rem (h : b ≠ 0) : binV P .rem t l (.int k a) (.int k b) = some (.int k (a.tmod b)) := by simp [binV, aBin, h]
@[simp] theorem b_and : binV P .and t l (.int k a) (.int k b) = some (.int k (k.wrap (BitVec.ofInt k.bits a &&& BitVec.ofInt k.bits b).toNat)) := by simp [binV, aBin]
@[simp] theorem b_or : binV P .or t l (.int k a) (.int k b) = some (.int k (k.wrap (BitVec.ofInt k.bits a ||| BitVec.ofInt k.bits b).toNat)) := by simp [binV, aBin]
@[simp] theorem b_xor : binV P .xor t l (.int k a) (.int k b) = some (.int k (k.wrap (BitVec.ofInt k.bits a ^^^ BitVec.ofInt k.bits b).toNat)) := by simp [binV, aBin]
@[simp] theorem b_andNot : binV P .andNot t l (.int k a) (.int k b) = some (.int k (k.wrap (BitVec.ofInt k.bits a &&& ~~~BitVec.ofInt k.bits b).toNat)) := by simp [binV, aBin]
@[simp] theorem b_shl {k' : IntKind} (h : 0 ≤ b) : binV P .shl t l (.int k a) (.int k' b) = some (.int k (k.wrap (a * 2 ^ (min b.toNat k.bits)))) := by simp [binV, aBin, Int.not_lt.2 h]
@[simp] theorem b_shr {k' : IntKind} (h : 0 ≤ b) : binV P .shr t l (.int k a) (.int k' b) = some (.int k (a.fdiv (2 ^ (min b.toNat k.bits)))) := by simp [binV, aBin, Int.not_lt.2 h]
@[simp] theorem u_not (b : Bool) : aUn .not (.bool b) = some (.bool !b) := rfl
@[simp] theorem u_neg : aUn .neg (.int k a) = some (.int k (k.wrap (0 - a))) := rfl
theorem b_eqlB (h : P.underlying t = some .bool) (x y : Bool) : binV P .eql t l (.bool x) (.bool y) = some (.bool (x == y)) := by simp [binV, aBin, aCmp, h]
theorem b_neqB (h : P.underlying t = some .bool) (x y : Bool) : binV P .neq t l (.bool x) (.bool y) = some (.bool !(x == y)) := by simp [binV, aBin, aCmp, h]
theorem wrap_i64 (h : -9223372036854775808 ≤ a ∧ a ≤ 9223372036854775807) : IntKind.i64.wrap a = a := by
  have e1 : (2 : Int) ^ 64 = 18446744073709551616 := by decide
  have e2 : (2 : Int) ^ (64 - 1) = 9223372036854775808 := by decide
  unfold IntKind.wrap
  simp only [IntKind.bits, IntKind.signed, Bool.true_and, e1, e2, decide_eq_true_eq]
  split <;> omega
theorem wrap_u64 (h : 0 ≤ a ∧ a < 18446744073709551616) : IntKind.u64.wrap a = a := by
  simp only [IntKind.wrap, IntKind.bits, IntKind.signed, Bool.false_and, Bool.false_eq_true, if_false]
  have : (2 : Int) ^ 64 = 18446744073709551616 := by decide
  omega
theorem wrap_u8 (h : 0 ≤ a ∧ a < 256) : IntKind.u8.wrap a = a := by
  simp only [IntKind.wrap, IntKind.bits, IntKind.signed, Bool.false_and, Bool.false_eq_true, if_false]
  omega
end
end
end
end Go.Proofs.Ytjfmiohgkcjdnaa.AX
