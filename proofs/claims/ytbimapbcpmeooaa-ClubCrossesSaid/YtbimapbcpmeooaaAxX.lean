/- A plain reading of runs (X). -/
import Derived.Test.YtbimapbcpmeooaaAxN
/- A plain reading of runs: stepping through a text whose values are named. -/
namespace Go.Proofs.Ytbimapbcpmeooaa.AX
open Go Go.RowKit

structure Dep {α : Sort _} (x : α) : Type where
def holdQ {α : Sort _} (x : α) (_ : Dep x) : α := x
@[simp] theorem s_holdQ {β γ : Type} (f : β → γ → Prop) (d : Dep f) (b : β) (c : γ) : holdQ f d b c = f b c := rfl

def wantS : Option Bool → Prop → Prop → Prop
  | some b, A, B => (b = true → A) ∧ (b = false → B)
  | none, _, _ => False
def resS : Option (Option AV × AH) → (Option AV → AH → Prop) → Prop
  | some (v, H), K => K v H
  | none, _ => False
def callS : Option (FuncId × List AV) → (FuncId → List AV → Prop) → Prop
  | some (f, args), K => K f args
  | none, _ => False
/-- What an operation calls: a function, or a round. -/
def callT (P : Program) (H : AH) (ρ : Operand → AV) (o : Op) (K : AV → AH → Prop) : Prop := match opYld ρ o with
  | some (r, args) => AYld P r args H K
  | none => callS (opCall P ρ o) fun f args => AC P f args H K
def condS : AV → Prop → Prop → Prop
  | .bool t, A, B => (t = true → A) ∧ (t = false → B)
  | _, _, _ => False

def wpO (P : Program) (nt : Nat) (ops : Array Oper) : List Oper → Env → AH → (Env → AH → Prop) → Prop
  | [], e, H, K => K e H
  | o :: rest, e, H, K =>
    wantS (wantedT ops e o)
      (dstOk nt o.dst = true ∧
        if isFnCall o.op then callT P H (oval e) o.op fun v H' => wpO P nt ops rest (putDst e o.dst (some v)) H' K
        else resS (execN P (oval e) H o.op) fun v H' => wpO P nt ops rest (putDst e o.dst v) H' K)
      (wpO P nt ops rest (putSkip e o.dst) H K)

def thenC (K : Env → AH → Prop) (Q : Ex → Env → AH → Prop) : Ex → Env → AH → Prop
  | .normal, e, H => K e H
  | x, e, H => Q x e H

def wpC (P : Program) (nt : Nat) (ks : List Nat) : Code → Env → AH → (Ex → Env → AH → Prop) → Prop
  | .skip, e, H, Q => Q .normal e H
  | .label _, e, H, Q => Q .normal e H
  | .region id ops draw, e, H, Q => if draw then AW P nt (.region id ops true) e H Q else wpO P nt ops ops.toList e H fun e H => Q .normal (ekeep ks e) H
  | .seq a b, e, H, Q => wpC P nt ks a e H (thenC (fun e H => wpC P nt ks b e H Q) Q)
  | .cond x a b, e, H, Q => condS (oval e x) (wpC P nt ks a e H Q) (wpC P nt ks b e H Q)
  | .block id c, e, H, Q => wpC P nt ks c e H (Out id Q)
  | .loop c, e, H, Q => AW P nt (.loop c) e H Q
  | .exit i, e, H, Q => Q (.exit i) e H
  | .goto i, e, H, Q => Q (.goto i) e H
  | .ret, e, H, Q => Q .ret e H
  | _, _, _, _ => False

section
variable {P : Program} {nt : Nat} {ks : List Nat} {ops : Array Oper}

theorem wpO_sound : ∀ {l : List Oper} {e : Env} {H : AH} {K : Env → AH → Prop}, wpO P nt ops l e H K → AO P nt ops l e H K
  | [], e, H, K, h => AO_nil h
  | o :: rest, e, H, K, h => by
    simp only [wpO] at h
    cases hw : wantedT ops e o with
    | none => rw [hw] at h; exact h.elim
    | some b =>
      rw [hw] at h
      cases b with
      | false => exact AO_skipT hw (wpO_sound (h.2 rfl))
      | true =>
        have hw := wantedT_true hw
        obtain ⟨hd, h⟩ := h.1 rfl
        split at h
        · unfold callT at h
          split at h
          · rename_i r args hy
            refine AO_yield hw hy hd ?_
            obtain ⟨pe, L, q1, q2, q3, q4⟩ := h
            refine ⟨pe, L, q1, q2, q3, q4.mono ?_⟩
            rintro x e1 H2 ⟨q5, pe1, L1, q6, q7⟩
            refine ⟨q5, pe1, L1, q6, q7.mono ?_⟩
            rintro x2 e2 H3 ⟨s2, pe2, L2, q8, q9⟩
            exact ⟨s2, pe2, L2, q8, wpO_sound q9⟩
          · cases hc : opCall P (oval e) o.op with
            | none => rw [hc] at h; exact h.elim
            | some x =>
              obtain ⟨f, args⟩ := x
              rw [hc] at h
              exact AO_call hw hc hd (AC.mono h fun _ _ hk => wpO_sound hk)
        · cases hx : execN P (oval e) H o.op with
          | none => rw [hx] at h; exact h.elim
          | some x =>
            obtain ⟨v, H'⟩ := x
            rw [hx] at h
            exact AO_op hw hx hd (wpO_sound h)

theorem wpC_sound : ∀ {c : Code} {e : Env} {H : AH} {Q : Ex → Env → AH → Prop}, wpC P nt ks c e H Q → AW P nt c e H Q := by
  intro c
  induction c with
  | skip => intro e H Q h; exact AW_skip h
  | label l => intro e H Q h; exact AW_label h
  | region id ops draw =>
    intro e H Q h
    simp only [wpC] at h
    cases draw with
    | true => exact h
    | false => exact AW_region ks (wpO_sound h)
  | seq a b iha ihb =>
    intro e H Q h
    refine AW_seq (AW.mono (iha h) ?_)
    intro x e' H' hx
    cases x with
    | normal => exact ihb hx
    | exit i => exact hx
    | goto i => exact hx
    | ret => exact hx
  | cond x a b iha ihb =>
    intro e H Q h
    simp only [wpC] at h
    cases hv : oval e x with
    | bool t => rw [hv] at h; exact AW_cond_split hv (fun ht => iha (h.1 ht)) (fun ht => ihb (h.2 ht))
    | _ => rw [hv] at h; exact h.elim
  | block id c ih => intro e H Q h; exact AW_block (ih h)
  | loop c ih => intro e H Q h; exact h
  | exit i => intro e H Q h; exact AW_exit h
  | goto i => intro e H Q h; exact AW_goto h
  | ret => intro e H Q h; exact AW_ret h
  | rangeFunc => intro e H Q h; exact h.elim
  | scope => intro e H Q h; exact h.elim
  | refuse => intro e H Q h; exact h.elim

/-! ### Equations for the stepping -/
section
@[congr] theorem c_want {x y : Option Bool} {A B : Prop} (h : x = y) : wantS x A B = wantS y A B := by rw [h]
@[congr] theorem c_res {x y : Option (Option AV × AH)} {K : Option AV → AH → Prop} (h : x = y) : resS x K = resS y K := by rw [h]
@[congr] theorem c_call {x y : Option (FuncId × List AV)} {K : FuncId → List AV → Prop} (h : x = y) : callS x K = callS y K := by rw [h]
@[congr] theorem c_AYld {r : Nat} {as bs : List AV} {H H' : AH} {Q : AV → AH → Prop} (h : as = bs) (h' : H = H') : AYld P r as H Q = AYld P r bs H' Q := by rw [h, h']
@[simp] theorem callT_inv {H : AH} {ρ : Operand → AV} {g : Operand} {n : String} {as : Array Operand} {ts : Array TypeId} {K : AV → AH → Prop} : callT P H ρ (.call ⟨.invoke g n, as, ts⟩) K = callS (opCall P ρ (.call ⟨.invoke g n, as, ts⟩)) fun f args => AC P f args H K := rfl
@[simp] theorem callT_fn {H : AH} {e : Env} {g : FuncId} {as : Array Operand} {ts : Array TypeId} {K : AV → AH → Prop} : callT P H (oval e) (.call ⟨.value (.func g), as, ts⟩) K = callS (opCall P (oval e) (.call ⟨.value (.func g), as, ts⟩)) fun f args => AC P f args H K := rfl
/-- What a temporary that is called is. -/
def callU (P : Program) (H : AH) (g : AV) (as : List AV) (K : AV → AH → Prop) : Prop := match g with
  | .yld r => AYld P r as H K
  | .func (.func f) first cap => okFn P f = true ∧ AC P f (first ++ as ++ cap) H K
  | _ => False
@[congr] theorem c_callU {H H' : AH} {g g' : AV} {as bs : List AV} {K : AV → AH → Prop} (h : H = H') (h1 : g = g') (h2 : as = bs) : callU P H g as K = callU P H' g' bs K := by rw [h, h1, h2]
@[simp] theorem callU_y {H : AH} {r : Nat} {as : List AV} {K : AV → AH → Prop} : callU P H (.yld r) as K = AYld P r as H K := rfl
@[simp] theorem callU_f {H : AH} {f : FuncId} {first cap as : List AV} {K : AV → AH → Prop} : callU P H (.func (.func f) first cap) as K = (okFn P f = true ∧ AC P f (first ++ as ++ cap) H K) := rfl
@[simp] theorem callT_tmp {H : AH} {e : Env} {t : Tmp} {as : Array Operand} {ts : Array TypeId} {K : AV → AH → Prop} : callT P H (oval e) (.call ⟨.value (.tmp t), as, ts⟩) K = callU P H (eget e t) (as.toList.map (oval e)) K := by
  simp only [callT, opYld, opCall, oval, callU]
  generalize eget e t = g
  cases g <;> try rfl
  rename_i fn first cap
  cases fn <;> try rfl
  rename_i f
  simp only []
  by_cases hok : okFn P f = true
  · simp [callS, hok]
  · simp [callS, hok]
@[congr] theorem c_cond {x y : AV} {A B : Prop} (h : x = y) : condS x A B = condS y A B := by rw [h]
@[congr] theorem c_AC {f : FuncId} {as bs : List AV} {H H' : AH} {Q : AV → AH → Prop} (h : as = bs) (h' : H = H') : AC P f as H Q = AC P f bs H' Q := by rw [h, h']
variable {ρ : Operand → AV} {H : AH} {e : Env} {A B : Prop}
@[simp] theorem s_want_t : wantS (some true) A B = A := by simp [wantS]
@[simp] theorem s_want_f : wantS (some false) A B = B := by simp [wantS]
@[simp] theorem s_want_d (p : Prop) [Decidable p] : wantS (some (decide p)) A B = ((p → A) ∧ (¬ p → B)) := by simp [wantS]
@[simp] theorem s_want_n (p : Prop) [Decidable p] : wantS (some (!decide p)) A B = ((p → B) ∧ (¬ p → A)) := by simp [wantS]; exact And.comm
@[simp] theorem s_res (v : Option AV) (K : Option AV → AH → Prop) : resS (some (v, H)) K = K v H := rfl
@[simp] theorem s_call (f : FuncId) (as : List AV) (K : FuncId → List AV → Prop) : callS (some (f, as)) K = K f as := rfl
@[simp] theorem s_cond (b : Bool) : condS (.bool b) A B = ((b = true → A) ∧ (b = false → B)) := rfl
@[simp] theorem s_nil (K : Env → AH → Prop) : wpO P nt ops [] e H K = K e H := rfl
def guardVal (b : AV) (want : Bool) : Option Bool := match b with | .bool b => some (b == want) | _ => none
@[simp] theorem s_gT_t (b : Bool) : guardT (.bool b) true = some b := by simp [guardT]
@[simp] theorem s_gT_f (b : Bool) : guardT (.bool b) false = some (!b) := by simp [guardT]
@[simp] theorem s_gT_s (w : Bool) : guardT (.tuple []) w = some false := rfl
@[simp] theorem s_pS_some {e : Env} (t : Nat) : putSkip e (some t) = eset e t (.tuple []) := rfl
@[simp] theorem s_pS_none {e : Env} : putSkip e none = e := rfl
@[simp] theorem s_guard_t (b : Bool) : guardVal (.bool b) true = some b := by simp [guardVal]
@[simp] theorem s_guard_f (b : Bool) : guardVal (.bool b) false = some (!b) := by simp [guardVal]
def slotOf (ops : Array Oper) (j : Nat) : Option Tmp := (ops[j]?).bind (·.dst)
def slotV (e : Env) : Option Tmp → AV
  | some t => eget e t
  | none => .undef
@[simp] theorem s_slotV (e : Env) (t : Tmp) : slotV e (some t) = eget e t := rfl
@[congr] theorem c_slotOf {j j' : Nat} (h : j = j') : slotOf ops j = slotOf ops j' := by rw [h]
@[simp] theorem s_slot0 (d : Option Tmp) (op : Op) (t : TypeId) (p : String) (af : Array Edge) (g : Option (Nat × Bool)) (l : List Oper) : slotOf (⟨d, op, t, p, af, g⟩ :: l).toArray 0 = d := by simp [slotOf]
@[simp] theorem s_slotS (o : Oper) (l : List Oper) (j : Nat) : slotOf (o :: l).toArray (j + 1) = slotOf l.toArray j := by simp [slotOf]
@[congr] theorem c_wpO {l : List Oper} {e e' : Env} {H H' : AH} {K : Env → AH → Prop} (h : e = e') (h' : H = H') : wpO P nt ops l e H K = wpO P nt ops l e' H' K := by rw [h, h']
@[simp] theorem s_consN (d : Option Tmp) (op : Op) (t : TypeId) (p : String) (af : Array Edge) (rest : List Oper) (K : Env → AH → Prop) : wpO P nt ops (⟨d, op, t, p, af, none⟩ :: rest) e H K =
      (dstOk nt d = true ∧
        if isFnCall op then callT P H (oval e) op (holdQ (fun v H' => wpO P nt ops rest (putDst e d (some v)) H' K) ⟨⟩)
        else resS (execN P (oval e) H op) (holdQ (fun v H' => wpO P nt ops rest (putDst e d v) H' K) ⟨⟩)) := by
  simp only [wpO, wantedT, wantS, holdQ]
  simp
@[simp] theorem s_consG (d : Option Tmp) (op : Op) (t : TypeId) (p : String) (af : Array Edge) (j : Nat) (want : Bool) (rest : List Oper) (K : Env → AH → Prop) : wpO P nt ops (⟨d, op, t, p, af, some (j, want)⟩ :: rest) e H K = wantS (guardT (slotV e (slotOf ops j)) want)
      (dstOk nt d = true ∧
        if isFnCall op then callT P H (oval e) op (holdQ (fun v H' => wpO P nt ops rest (putDst e d (some v)) H' K) ⟨⟩)
        else resS (execN P (oval e) H op) (holdQ (fun v H' => wpO P nt ops rest (putDst e d v) H' K) ⟨⟩))
      (wpO P nt ops rest (putSkip e d) H K) := by
  have : wantedT ops e ⟨d, op, t, p, af, some (j, want)⟩ = guardT (slotV e (slotOf ops j)) want := by
    unfold wantedT slotOf slotV
    simp only []
    cases (ops[j]?).bind (·.dst) <;> rfl
  rw [wpO, this]
  rfl
@[simp] theorem s_then_n (K : Env → AH → Prop) (Q : Ex → Env → AH → Prop) : thenC K Q .normal e H = K e H := rfl
@[simp] theorem s_then_e (K : Env → AH → Prop) (Q : Ex → Env → AH → Prop) (i : Nat) : thenC K Q (.exit i) e H = Q (.exit i) e H := rfl
@[simp] theorem s_then_g (K : Env → AH → Prop) (Q : Ex → Env → AH → Prop) (i : Nat) : thenC K Q (.goto i) e H = Q (.goto i) e H := rfl
@[simp] theorem s_then_r (K : Env → AH → Prop) (Q : Ex → Env → AH → Prop) : thenC K Q .ret e H = Q .ret e H := rfl
@[simp] theorem s_out_n (id : Nat) (Q : Ex → Env → AH → Prop) : Out id Q .normal e H = Q .normal e H := rfl
@[simp] theorem s_out_e (id i : Nat) (Q : Ex → Env → AH → Prop) : Out id Q (.exit i) e H = if i = id then Q .normal e H else Q (.exit i) e H := rfl
@[simp] theorem s_out_g (id i : Nat) (Q : Ex → Env → AH → Prop) : Out id Q (.goto i) e H = Q (.goto i) e H := rfl
@[simp] theorem s_out_r (id : Nat) (Q : Ex → Env → AH → Prop) : Out id Q .ret e H = Q .ret e H := rfl
@[simp] theorem s_skip (Q : Ex → Env → AH → Prop) : wpC P nt ks .skip e H Q = Q .normal e H := rfl
@[simp] theorem s_region (id : Nat) (Q : Ex → Env → AH → Prop) : wpC P nt ks (.region id ops false) e H Q = wpO P nt ops ops.toList e H fun e H => Q .normal (ekeep ks e) H := rfl
@[simp] theorem s_regionD (id : Nat) (Q : Ex → Env → AH → Prop) : wpC P nt ks (.region id ops true) e H Q = AW P nt (.region id ops true) e H Q := rfl
@[simp] theorem s_seq (a b : Code) (Q : Ex → Env → AH → Prop) : wpC P nt ks (.seq a b) e H Q = wpC P nt ks a e H (thenC (fun e H => wpC P nt ks b e H Q) Q) := rfl
@[simp] theorem s_condC (x : Operand) (a b : Code) (Q : Ex → Env → AH → Prop) : wpC P nt ks (.cond x a b) e H Q = condS (oval e x) (wpC P nt ks a e H Q) (wpC P nt ks b e H Q) := rfl
@[simp] theorem s_block (id : Nat) (a : Code) (Q : Ex → Env → AH → Prop) : wpC P nt ks (.block id a) e H Q = wpC P nt ks a e H (Out id Q) := rfl
@[simp] theorem s_loop (a : Code) (Q : Ex → Env → AH → Prop) : wpC P nt ks (.loop a) e H Q = AW P nt (.loop a) e H Q := rfl
@[simp] theorem s_exit (i : Nat) (Q : Ex → Env → AH → Prop) : wpC P nt ks (.exit i) e H Q = Q (.exit i) e H := rfl
@[simp] theorem s_goto (i : Nat) (Q : Ex → Env → AH → Prop) : wpC P nt ks (.goto i) e H Q = Q (.goto i) e H := rfl
@[simp] theorem s_ret (Q : Ex → Env → AH → Prop) : wpC P nt ks .ret e H Q = Q .ret e H := rfl

/-- A statement, and what follows it. -/
theorem AW_seqR {id : Nat} {l : List Oper} {b : Code} {Q : Ex → Env → AH → Prop} (ks : List Nat) (h : ∀ K : Env → AH → Prop, (∀ e' H', AW P nt b e' H' Q → K e' H') → wpO P nt l.toArray l e H fun e H => K (ekeep ks e) H) : AW P nt (.seq (.region id l.toArray false) b) e H Q :=
  AW_seq (AW_region ks (by
    have := h (fun e' H' => Then P nt b Q .normal e' H') (fun e' H' h => h)
    exact wpO_sound this))
theorem AW_regR {id : Nat} {l : List Oper} {Q : Ex → Env → AH → Prop} (ks : List Nat) (h : ∀ K : Env → AH → Prop, (∀ e' H', Q .normal e' H' → K e' H') → wpO P nt l.toArray l e H fun e H => K (ekeep ks e) H) : AW P nt (.region id l.toArray false) e H Q :=
  AW_region ks (wpO_sound (h (fun e' H' => Q .normal e' H') (fun _e' _H' h => h)))
theorem AW_seqK {a b : Code} {Q : Ex → Env → AH → Prop} (h : ∀ K : Env → AH → Prop, (∀ e' H', AW P nt b e' H' Q → K e' H') → AW P nt a e H (thenC K Q)) : AW P nt (.seq a b) e H Q :=
  AW_seq ((h (fun e' H' => AW P nt b e' H' Q) (fun e' H' h => h)).mono fun x e' H' hx => by cases x <;> exact hx)
theorem AW_condD {x : Operand} {c d : Code} {p : Prop} [Decidable p] {Q : Ex → Env → AH → Prop} (hc : oval e x = .bool (decide p)) (h1 : p → AW P nt c e H Q) (h2 : ¬ p → AW P nt d e H Q) : AW P nt (.cond x c d) e H Q :=
  AW_cond_split hc (fun h => h1 (of_decide_eq_true h)) (fun h => h2 (of_decide_eq_false h))

-- environments
@[simp] theorem s_oval_tmp (t : Nat) : oval e (.tmp t) = eget e t := rfl
@[simp] theorem s_oval_global (g : Nat) : oval e (.global g) = .gptr g 0 := rfl
@[simp] theorem s_oval_func (f : Nat) : oval e (.func f) = .func (.func f) [] [] := rfl
@[simp] theorem s_oval_int (k : IntKind) (n : Int) : oval e (.const (.int k n)) = .int k n := rfl
@[simp] theorem s_oval_bool (b : Bool) : oval e (.const (.bool b)) = .bool b := rfl
@[simp] theorem s_oval_str (s : ByteArray) : oval e (.const (.string s)) = .str s.data.toList := rfl
@[simp] theorem s_oval_nilptr : oval e (.const (.pointer none)) = .nilptr := rfl
@[simp] theorem s_oval_nilslice : oval e (.const (.slice none 0 0)) = .slice none 0 0 0 1 false := rfl
@[simp] theorem s_oval_nilmap : oval e (.const (.map none)) = .nilmap := rfl
@[simp] theorem s_oval_nilfunc : oval e (.const .nilFunc) = .nilfunc := rfl
@[simp] theorem s_oval_niliface : oval e (.const .nilIface) = .niliface := rfl
@[simp] theorem s_oval_agg (cs : List Value) : oval e (.const (.agg cs.toArray)) = .agg (cs.map (absV 2)) := by simp [oval, absV]
@[simp] theorem s_abs_int (n : Nat) (k : IntKind) (m : Int) : absV n (.int k m) = .int k m := by cases n <;> rfl
@[simp] theorem s_abs_bool (n : Nat) (b : Bool) : absV n (.bool b) = .bool b := by cases n <;> rfl
@[simp] theorem s_abs_nilslice (n : Nat) : absV n (.slice none 0 0) = .slice none 0 0 0 1 false := by cases n <;> rfl
@[simp] theorem s_abs_niliface (n : Nat) : absV n .nilIface = .niliface := by cases n <;> rfl
@[simp] theorem s_abs_nilptr (n : Nat) : absV n (.pointer none) = .nilptr := by cases n <;> rfl
@[simp] theorem s_abs_str (n : Nat) (s : ByteArray) : absV n (.string s) = .str s.data.toList := by cases n <;> rfl
@[simp] theorem s_eget_nil (t : Nat) : eget [] t = .undef := rfl
@[simp] theorem s_eget_cons (k t : Nat) (v : AV) (l : Env) : eget ((k, v) :: l) t = if k = t then v else eget l t := rfl
@[simp] theorem s_eset_nil (t : Nat) (v : AV) : eset [] t v = [(t, v)] := rfl
@[simp] theorem s_eset_cons (k t : Nat) (u v : AV) (l : Env) : eset ((k, u) :: l) t v = if t < k then (t, v) :: (k, u) :: l else if k = t then (t, v) :: l else (k, u) :: eset l t v := rfl
@[simp] theorem s_edel_nil (t : Nat) : edel [] t = [] := rfl
@[simp] theorem s_edel_cons (k t : Nat) (u : AV) (l : Env) : edel ((k, u) :: l) t = if k = t then edel l t else (k, u) :: edel l t := rfl
@[simp] theorem s_ekeep_nil : ekeep ks [] = [] := rfl
@[simp] theorem s_ekeep_cons (k : Nat) (u : AV) (l : Env) : ekeep ks ((k, u) :: l) = if ks.contains k then (k, u) :: ekeep ks l else ekeep ks l := rfl
@[simp] theorem s_put_some (t : Nat) (v : AV) : putDst e (some t) (some v) = eset e t v := rfl
@[simp] theorem s_put_none (t : Nat) : putDst e (some t) none = edel e t := rfl
@[simp] theorem s_put_no (v : Option AV) : putDst e none v = e := rfl
@[simp] theorem s_dst_some (t : Nat) : dstOk nt (some t) = decide (t < nt) := rfl
@[simp] theorem s_dst_none : dstOk nt none = true := rfl
@[simp] theorem s_args_nil (k : Nat) : argsEnv k [] = [] := rfl
@[simp] theorem s_args_cons (k : Nat) (v : AV) (l : List AV) : argsEnv k (v :: l) = (k, v) :: argsEnv (k + 1) l := rfl

-- which
@[simp] theorem s_isc_value (g : Operand) (as : Array Operand) (ts : Array TypeId) : isFnCall (.call ⟨.value g, as, ts⟩) = true := rfl
@[simp] theorem s_isc_invoke (g : Operand) (n : String) (as : Array Operand) (ts : Array TypeId) : isFnCall (.call ⟨.invoke g n, as, ts⟩) = true := rfl
@[simp] theorem s_isc_builtin (b : Builtin) (as : Array Operand) (ts : Array TypeId) : isFnCall (.call ⟨.builtin b, as, ts⟩) = false := rfl
@[simp] theorem s_isc_move (x : Operand) : isFnCall (.move x) = false := rfl
@[simp] theorem s_isc_assign (x : Operand) : isFnCall (.assign x) = false := rfl
@[simp] theorem s_isc_pick (c a b : Operand) : isFnCall (.pick c a b) = false := rfl
@[simp] theorem s_isc_build (t : TypeId) (ps : Array (Nat × Operand)) : isFnCall (.build t ps) = false := rfl
@[simp] theorem s_isc_nilCheck (x : Operand) : isFnCall (.nilCheck x) = false := rfl
@[simp] theorem s_isc_binOp (op : BinOp) (t : TypeId) (x y : Operand) (u : TypeId) : isFnCall (.binOp op t x y u) = false := rfl
@[simp] theorem s_isc_unOp (op : UnOp) (t : TypeId) (x : Operand) : isFnCall (.unOp op t x) = false := rfl
@[simp] theorem s_isc_convert (a b : TypeId) (x : Operand) : isFnCall (.convert a b x) = false := rfl
@[simp] theorem s_isc_mkIface (t : TypeId) (x : Operand) : isFnCall (.makeInterface t x) = false := rfl
@[simp] theorem s_isc_mkFunc (f : Fn) (a b : Array Operand) : isFnCall (.makeFunc f a b) = false := rfl
@[simp] theorem s_isc_slice (t : TypeId) (x : Operand) (a b c : Option Operand) : isFnCall (.slice t x a b c) = false := rfl
@[simp] theorem s_isc_fieldAddr (t : TypeId) (x : Operand) (f : Nat) : isFnCall (.fieldAddr t x f) = false := rfl
@[simp] theorem s_isc_field (t : TypeId) (x : Operand) (f : Nat) : isFnCall (.field t x f) = false := rfl
@[simp] theorem s_isc_indexAddr (t : TypeId) (x i : Operand) : isFnCall (.indexAddr t x i) = false := rfl
@[simp] theorem s_isc_index (t : TypeId) (x i : Operand) : isFnCall (.index t x i) = false := rfl
@[simp] theorem s_isc_assert (x : Operand) (a b : TypeId) (ok : Bool) : isFnCall (.typeAssert x a b ok) = false := rfl
@[simp] theorem s_isc_extract (x : Operand) (i : Nat) : isFnCall (.extract x i) = false := rfl
@[simp] theorem s_isc_load (t : TypeId) (x : Operand) : isFnCall (.load t x) = false := rfl
@[simp] theorem s_isc_store (t : TypeId) (x y : Operand) : isFnCall (.store t x y) = false := rfl
@[simp] theorem s_isc_alloc (t : TypeId) : isFnCall (.alloc t) = false := rfl
@[simp] theorem s_isc_box (t : TypeId) (x : Operand) : isFnCall (.box t x) = false := rfl
@[simp] theorem s_isc_buildSlice (t : TypeId) (n : Nat) (ps : Array (Nat × Operand)) : isFnCall (.buildSlice t n ps) = false := rfl
@[simp] theorem s_isc_lookup (t : TypeId) (x i : Operand) (ok : Bool) : isFnCall (.lookup t x i ok) = false := rfl
@[simp] theorem s_isc_mapUpdate (t : TypeId) (x i v : Operand) : isFnCall (.mapUpdate t x i v) = false := rfl
@[simp] theorem s_isc_range (t : TypeId) (x : Operand) : isFnCall (.range t x) = false := rfl
@[simp] theorem s_isc_next (x : Operand) (b : Bool) : isFnCall (.next x b) = false := rfl
@[simp] theorem s_isc_makeMap (t : TypeId) (r : Option Operand) : isFnCall (.makeMap t r) = false := rfl
@[simp] theorem s_isc_makeSlice (t : TypeId) (x y : Operand) : isFnCall (.makeSlice t x y) = false := rfl

@[simp] theorem s_opcall (g : FuncId) (as : Array Operand) (ts : Array TypeId) : opCall P ρ (.call ⟨.value (.func g), as, ts⟩) = (match ρ (.func g) with | .func (.func f) first cap => if okFn P f then some (f, first ++ as.toList.map ρ ++ cap) else none | _ => none) := rfl
theorem opcall_invoke {ρ : Operand → AV} {x : Operand} {name : String} {as : Array Operand} {ts : Array TypeId} {v : AV} {t : TypeId} {f : FuncId} (ok : (match P.info? t, P.underlying t with
      | some i, some d =>
        match i.methods.find? (·.name == name) with
        | some m =>
          match m.path.toList, m.func with
          | [], some (g, p) => okFn P g && (p == isPtrD d) && (g == f)
          | _, _ => false
        | none => false
      | _, _ => false) = true) (h : ρ x = .iface t v) : opCall P ρ (.call ⟨.invoke x name, as, ts⟩) = some (f, v :: as.toList.map ρ) := by
  simp only [opCall, h]
  split at ok
  · rename_i i d h1 h2
    split at ok
    · rename_i m h3
      split at ok
      · rename_i g p h4 h5
        simp only [Bool.and_eq_true, beq_iff_eq] at ok
        have e := ok.1.1
        rw [ok.2] at e
        simp [h1, h2, h3, h4, h5, e, ok.1.2, ok.2]
      · cases ok
    · cases ok
  · cases ok

-- what they give
def val1 (H : AH) : Option AV → Option (Option AV × AH)
  | some v => some (some v, H)
  | none => none
@[simp] theorem s_val1 (v : AV) : val1 H (some v) = some (some v, H) := rfl
theorem map_val1 (x : Option AV) : (x.map fun v => (some v, H)) = val1 H x := by cases x <;> rfl
@[simp] theorem x_move (x : Operand) : execN P ρ H (.move x) = some (some (ρ x), H) := rfl
@[simp] theorem x_assign (x : Operand) : execN P ρ H (.assign x) = some (some (ρ x), H) := rfl
def pickV (c a b : AV) : Option AV := match c with | .bool t => some (if t then a else b) | _ => none
@[simp] theorem s_pick (t : Bool) (a b : AV) : pickV (.bool t) a b = some (if t then a else b) := rfl
@[simp] theorem x_pick (c a b : Operand) : execN P ρ H (.pick c a b) = val1 H (pickV (ρ c) (ρ a) (ρ b)) := by rw [← map_val1]; rfl
@[simp] theorem x_build (t : TypeId) (ps : Array (Nat × Operand)) : execN P ρ H (.build t ps) = val1 H ((aBuilt P t (ps.toList.map fun x => (x.1, ρ x.2))).map .agg) := by rw [← map_val1]; rfl
@[simp] theorem x_nilCheck (x : Operand) : execN P ρ H (.nilCheck x) = val1 H (aNil (ρ x)) := by rw [← map_val1]; rfl
def binV (P : Program) (op : BinOp) (t : TypeId) (lit : Bool) (x y : AV) : Option AV := match aBin op x y with | some v => some v | none => match aCmp P op t lit x y with | some v => some v | none => aEqA P op t x y
@[simp] theorem x_binOp (op : BinOp) (t u : TypeId) (x y : Operand) : execN P ρ H (.binOp op t x y u) = val1 H (binV P op t (litOp x || litOp y) (ρ x) (ρ y)) := by rw [← map_val1]; rfl
@[simp] theorem x_unOp (op : UnOp) (t : TypeId) (x : Operand) : execN P ρ H (.unOp op t x) = val1 H (aUn op (ρ x)) := by rw [← map_val1]; rfl
@[simp] theorem x_convert (a b : TypeId) (x : Operand) : execN P ρ H (.convert a b x) = val1 H (aConv P a b (ρ x)) := by rw [← map_val1]; rfl
@[simp] theorem x_mkFunc (f : Fn) (a b : Array Operand) : execN P ρ H (.makeFunc f a b) = some (some (.func f (a.toList.map ρ) (b.toList.map ρ)), H) := rfl
@[simp] theorem x_fieldAddr (t : TypeId) (x : Operand) (f : Nat) : execN P ρ H (.fieldAddr t x f) = val1 H (aFieldAddr P t (ρ x) f) := by rw [← map_val1]; rfl
@[simp] theorem x_field (t : TypeId) (x : Operand) (f : Nat) : execN P ρ H (.field t x f) = val1 H (aField P t (ρ x) f) := by rw [← map_val1]; rfl
@[simp] theorem x_indexAddr (t : TypeId) (x i : Operand) : execN P ρ H (.indexAddr t x i) = val1 H (aIndexAddr P t (ρ x) (ρ i)) := by rw [← map_val1]; rfl
@[simp] theorem x_index (t : TypeId) (x i : Operand) : execN P ρ H (.index t x i) = val1 H (aIndex P t (ρ x) (ρ i)) := by rw [← map_val1]; rfl
@[simp] theorem x_assert (x : Operand) (a b : TypeId) (ok : Bool) : execN P ρ H (.typeAssert x a b ok) = val1 H (aAssert P (ρ x) b ok) := by rw [← map_val1]; rfl
def extV (v : AV) (i : Nat) : Option AV := match v with | .tuple vs => vs[i]? | _ => none
@[simp] theorem s_ext (vs : List AV) (i : Nat) : extV (.tuple vs) i = vs[i]? := rfl
@[simp] theorem x_extract (x : Operand) (i : Nat) : execN P ρ H (.extract x i) = val1 H (extV (ρ x) i) := by rw [← map_val1]; rfl
def loadV (P : Program) (t : TypeId) (H : AH) (v : AV) : Option AV := match P.underlying t, P.info? t, v with
  | some d, some i, .ptr r off ver => if isAggD d then (ldn H r ver i.size off).map .agg else ld H r off ver
  | some d, some i, .gptr g off => (gfind H g).bind fun cells => if isAggD d then (takeKnown i.size (cells.drop off)).map .agg else known cells[off]?
  | _, _, _ => none
@[simp] theorem x_load (t : TypeId) (x : Operand) : execN P ρ H (.load t x) = val1 H (loadV P t H (ρ x)) := by rw [← map_val1]; rfl
@[simp] theorem x_box (t : TypeId) (x : Operand) : execN P ρ H (.box t x) = if (ρ x).isU then none else some (some (.ptr H.length 0 0), H ++ [.row (acells (ρ x)) 0 0 false]) := rfl
@[simp] theorem x_alloc (t : TypeId) : execN P ρ H (.alloc t) = (tiOf P t).map fun I => (some (.ptr H.length 0 0), H ++ [.row I.zero 0 0 false]) := rfl

@[simp] theorem x_lookup (t : TypeId) (m x : Operand) (ok : Bool) : execN P ρ H (.lookup t m x ok) = val1 H (aLook P H t (ρ m) (ρ x) ok) := by rw [← map_val1]; rfl
@[simp] theorem x_range (t : TypeId) (x : Operand) : execN P ρ H (.range t x) = aRange P H t (ρ x) := rfl
@[simp] theorem x_next (x : Operand) (b : Bool) : execN P ρ H (.next x b) = aNext H (ρ x) b := rfl
@[simp] theorem x_makeMap (t : TypeId) (r : Option Operand) : execN P ρ H (.makeMap t r) = aMapMake P t (r.map ρ) H := rfl
@[simp] theorem x_mapUpdate (t : TypeId) (m k x : Operand) : execN P ρ H (.mapUpdate t m k x) = (aMapPut P H t (ρ m) (ρ k) (ρ x)).map fun H' => (none, H') := rfl
/-- A map of integers to whatever. -/
def mapL (l : List (Int × AV)) : List (AV × AV) := l.map fun p => (.int .i64 p.1, p.2)
def putL (k : Int) (v : AV) : List (Int × AV) → List (Int × AV)
  | [] => [(k, v)]
  | p :: l => if k == p.1 then (k, v) :: l else p :: putL k v l
theorem mfind_L (k : Int) : ∀ l : List (Int × AV), mfind (.int .i64) (.int .i64 k) (mapL l) = some (l.lookup k)
  | [] => rfl
  | p :: l => by
    simp only [mapL, List.map_cons, mfind, sameKeyA, if_true, List.lookup]
    have := mfind_L k l
    simp only [mapL] at this
    cases h : k == p.1 <;> simp [this]
theorem mput_L (k : Int) (v : AV) : ∀ l : List (Int × AV), mput (.int .i64) (.int .i64 k) v (mapL l) = some (mapL (putL k v l))
  | [] => rfl
  | p :: l => by
    simp only [mapL, List.map_cons, mput, sameKeyA, if_true, putL]
    have := mput_L k v l
    simp only [mapL] at this
    cases h : k == p.1 <;> simp [this]
def MapI (H : AH) (r : Nat) (l : List (Int × AV)) : Prop := H[r]? = some (.map (mapL l))
theorem MapI.row {r : Nat} {l : List (Int × AV)} (h : MapI H r l) : mrow H r = some (mapL l) := by unfold mrow; rw [h]
theorem look_I {t : TypeId} {z : AV} {r : Nat} {l : List (Int × AV)} {k : Int} {ok : Bool} (ht : mapT P t = some (.int .i64, z)) (h : MapI H r l) :
    aLook P H t (.map r) (.int .i64 k) ok = some (match l.lookup k with | some v => lookV ok v true | none => lookV ok z false) := by
  simp only [aLook, aLookF, ht, keyOkA, decide_true, if_true, h.row, Option.bind_some, mfind_L, Option.map_some]
  cases l.lookup k <;> rfl
theorem put_I {t : TypeId} {z : AV} {r : Nat} {l : List (Int × AV)} {k : Int} {v : AV} (ht : mapT P t = some (.int .i64, z)) (h : MapI H r l) :
    aMapPut P H t (.map r) (.int .i64 k) v = some (H.set r (.map (mapL (putL k v l)))) := by
  simp only [aMapPut, aPutF, ht, keyOkA, decide_true, if_true, h.row, Option.bind_some, mput_L, Option.map_some]
theorem make_I {t : TypeId} {d : TypeDesc × AV} (ht : mapT P t = some d) : aMapMake P t none H = some (some (.map H.length), H ++ [.map (mapL [])]) := by
  simp [aMapMake, ht, mapL]
/-- A map of lists of n integers (arrays) to whatever. -/
def mapLA (l : List (List Int × AV)) : List (AV × AV) := l.map fun p => (.agg (p.1.map (.int .i64)), p.2)
def putLA (k : List Int) (v : AV) : List (List Int × AV) → List (List Int × AV)
  | [] => [(k, v)]
  | p :: l => if k == p.1 then (k, v) :: l else p :: putLA k v l
def okKey (n : Nat) (k : List Int) : Prop := k.length = n ∧ ∀ a ∈ k, (Lit.int .i64 a).wf = true
theorem same_LA : ∀ {k p : List Int}, k.length = p.length → (∀ a ∈ p, (Lit.int .i64 a).wf = true) → sameKeyW .i64 (k.map (.int .i64)) (p.map (.int .i64)) = some (k == p)
  | [], [], _, _ => rfl
  | [], _ :: _, h, _ => by cases h
  | _ :: _, [], h, _ => by cases h
  | a :: k, b :: p, h, hw => by
    simp only [List.map_cons, sameKeyW]
    rw [if_pos ⟨trivial, trivial, hw b (by simp)⟩, same_LA (by simpa using h) fun x hx => hw x (by simp [hx])]
    rw [Option.map_some, List.cons_beq_cons]
    rfl
theorem okKey_ok {n : Nat} {k : List Int} (h : okKey n k) : keyOkW n .i64 (k.map (.int .i64)) = true := by
  simp only [keyOkW, Bool.and_eq_true, decide_eq_true_eq, List.length_map, List.all_map, List.all_eq_true]
  exact ⟨h.1, fun a ha => by simp [intOk, h.2 a ha]⟩
theorem mfind_LA {n : Nat} {k : List Int} (hk : okKey n k) : ∀ {l : List (List Int × AV)}, (∀ p ∈ l, okKey n p.1) → mfindW .i64 (k.map (.int .i64)) (mapLA l) = some (l.lookup k)
  | [], _ => rfl
  | p :: l, hl => by
    have hp := hl p (by simp)
    have := mfind_LA hk (l := l) fun x hx => hl x (by simp [hx])
    simp only [mapLA] at this
    simp only [mapLA, List.map_cons, mfindW, same_LA (hk.1.trans hp.1.symm) hp.2, List.lookup]
    cases h : k == p.1 <;> simp [this]
theorem mput_LA {n : Nat} {k : List Int} {v : AV} (hk : okKey n k) : ∀ {l : List (List Int × AV)}, (∀ p ∈ l, okKey n p.1) → mputW .i64 (k.map (.int .i64)) v (mapLA l) = some (mapLA (putLA k v l))
  | [], _ => rfl
  | p :: l, hl => by
    have hp := hl p (by simp)
    have := mput_LA (v := v) hk (l := l) fun x hx => hl x (by simp [hx])
    simp only [mapLA] at this
    simp only [mapLA, List.map_cons, mputW, same_LA (hk.1.trans hp.1.symm) hp.2, putLA]
    cases h : k == p.1 <;> simp [this]
theorem putLA_ok {n : Nat} {k : List Int} {v : AV} (hk : okKey n k) : ∀ {l : List (List Int × AV)}, (∀ p ∈ l, okKey n p.1) → ∀ p ∈ putLA k v l, okKey n p.1
  | [], _ => by intro p hp; simp [putLA] at hp; subst hp; exact hk
  | q :: l, hl => by
    intro p hp
    simp only [putLA] at hp
    split at hp
    · rcases List.mem_cons.1 hp with rfl | hp
      · exact hk
      · exact hl p (by simp [hp])
    · rcases List.mem_cons.1 hp with rfl | hp
      · exact hl _ (by simp)
      · exact putLA_ok hk (fun x hx => hl x (by simp [hx])) p hp
def MapA (H : AH) (r : Nat) (l : List (List Int × AV)) : Prop := H[r]? = some (.map (mapLA l))
theorem MapA.row {r : Nat} {l : List (List Int × AV)} (h : MapA H r l) : mrow H r = some (mapLA l) := by unfold mrow; rw [h]
theorem look_A {t e : TypeId} {n : Nat} {z : AV} {r : Nat} {l : List (List Int × AV)} {k : List Int} {ok : Bool} (ht : mapT P t = some (.array n e, z)) (ha : arrT P t = some (n, .i64)) (h : MapA H r l) (hk : okKey n k) (hl : ∀ p ∈ l, okKey n p.1) :
    aLook P H t (.map r) (.agg (k.map (.int .i64))) ok = some (match l.lookup k with | some v => lookV ok v true | none => lookV ok z false) := by
  simp only [aLook, aLookF, ht, keyOkA, ha, okKey_ok hk, if_true, h.row, Option.bind_some, mfind_LA hk hl, Option.map_some, Bool.false_eq_true, if_false]
  cases l.lookup k <;> rfl
theorem put_A {t e : TypeId} {n : Nat} {z : AV} {r : Nat} {l : List (List Int × AV)} {k : List Int} {v : AV} (ht : mapT P t = some (.array n e, z)) (ha : arrT P t = some (n, .i64)) (h : MapA H r l) (hk : okKey n k) (hl : ∀ p ∈ l, okKey n p.1) :
    aMapPut P H t (.map r) (.agg (k.map (.int .i64))) v = some (H.set r (.map (mapLA (putLA k v l)))) := by
  simp only [aMapPut, aPutF, ht, keyOkA, ha, okKey_ok hk, if_true, h.row, Option.bind_some, mput_LA hk hl, Option.map_some, Bool.false_eq_true, if_false]
theorem make_A {t : TypeId} {d : TypeDesc × AV} (ht : mapT P t = some d) : aMapMake P t none H = some (some (.map H.length), H ++ [.map (mapLA [])]) := by
  simp [aMapMake, ht, mapLA]

-- numbers
section
variable {k : IntKind} {a b : Int} {t : TypeId} {l : Bool}
@[simp] theorem b_add : binV P .add t l (.int k a) (.int k b) = some (.int k (k.wrap (a + b))) := by simp [binV, aBin]
@[simp] theorem b_sub : binV P .sub t l (.int k a) (.int k b) = some (.int k (k.wrap (a - b))) := by simp [binV, aBin]
@[simp] theorem b_mul : binV P .mul t l (.int k a) (.int k b) = some (.int k (k.wrap (a * b))) := by simp [binV, aBin]
@[simp] theorem b_eql : binV P .eql t l (.int k a) (.int k b) = some (.bool (a == b)) := by simp [binV, aBin]
@[simp] theorem b_neq : binV P .neq t l (.int k a) (.int k b) = some (.bool (a != b)) := by simp [binV, aBin]
@[simp] theorem b_lss : binV P .lss t l (.int k a) (.int k b) = some (.bool (decide (a < b))) := by simp [binV, aBin]
@[simp] theorem b_leq : binV P .leq t l (.int k a) (.int k b) = some (.bool (decide (a ≤ b))) := by simp [binV, aBin]
@[simp] theorem b_gtr : binV P .gtr t l (.int k a) (.int k b) = some (.bool (decide (b < a))) := by simp [binV, aBin]
@[simp] theorem b_geq : binV P .geq t l (.int k a) (.int k b) = some (.bool (decide (b ≤ a))) := by simp [binV, aBin]
@[simp] theorem b_quo (h : b ≠ 0) : binV P .quo t l (.int k a) (.int k b) = some (.int k (k.wrap (a.tdiv b))) := by simp [binV, aBin, h]
@[simp] theorem b_rem (h : b ≠ 0) : binV P .rem t l (.int k a) (.int k b) = some (.int k (a.tmod b)) := by simp [binV, aBin, h]
@[simp] theorem b_and : binV P .and t l (.int k a) (.int k b) = some (.int k (k.wrap (BitVec.ofInt k.bits a &&& BitVec.ofInt k.bits b).toNat)) := by simp [binV, aBin]
@[simp] theorem b_or : binV P .or t l (.int k a) (.int k b) = some (.int k (k.wrap (BitVec.ofInt k.bits a ||| BitVec.ofInt k.bits b).toNat)) := by simp [binV, aBin]
@[simp] theorem b_xor : binV P .xor t l (.int k a) (.int k b) = some (.int k (k.wrap (BitVec.ofInt k.bits a ^^^ BitVec.ofInt k.bits b).toNat)) := by simp [binV, aBin]
@[simp] theorem b_andNot : binV P .andNot t l (.int k a) (.int k b) = some (.int k (k.wrap (BitVec.ofInt k.bits a &&& ~~~BitVec.ofInt k.bits b).toNat)) := by simp [binV, aBin]
@[simp] theorem b_shl {k' : IntKind} (h : 0 ≤ b) : binV P .shl t l (.int k a) (.int k' b) = some (.int k (k.wrap (a * 2 ^ (min b.toNat k.bits)))) := by simp [binV, aBin, Int.not_lt.2 h]
@[simp] theorem b_shr {k' : IntKind} (h : 0 ≤ b) : binV P .shr t l (.int k a) (.int k' b) = some (.int k (a.fdiv (2 ^ (min b.toNat k.bits)))) := by simp [binV, aBin, Int.not_lt.2 h]
@[simp] theorem u_not (b : Bool) : aUn .not (.bool b) = some (.bool !b) := rfl
@[simp] theorem u_neg : aUn .neg (.int k a) = some (.int k (k.wrap (0 - a))) := rfl
theorem b_eqlB (h : P.underlying t = some .bool) (x y : Bool) : binV P .eql t l (.bool x) (.bool y) = some (.bool (x == y)) := by simp [binV, aBin, aCmp, h]
theorem b_neqB (h : P.underlying t = some .bool) (x y : Bool) : binV P .neq t l (.bool x) (.bool y) = some (.bool !(x == y)) := by simp [binV, aBin, aCmp, h]
theorem wrap_i64 (h : -9223372036854775808 ≤ a ∧ a ≤ 9223372036854775807) : IntKind.i64.wrap a = a := by
  have e1 : (2 : Int) ^ 64 = 18446744073709551616 := by decide
  have e2 : (2 : Int) ^ (64 - 1) = 9223372036854775808 := by decide
  unfold IntKind.wrap
  simp only [IntKind.bits, IntKind.signed, Bool.true_and, e1, e2, decide_eq_true_eq]
  split <;> omega
theorem wrap_u64 (h : 0 ≤ a ∧ a < 18446744073709551616) : IntKind.u64.wrap a = a := by
  simp only [IntKind.wrap, IntKind.bits, IntKind.signed, Bool.false_and, Bool.false_eq_true, if_false]
  have : (2 : Int) ^ 64 = 18446744073709551616 := by decide
  omega
theorem wrap_u8 (h : 0 ≤ a ∧ a < 256) : IntKind.u8.wrap a = a := by
  simp only [IntKind.wrap, IntKind.bits, IntKind.signed, Bool.false_and, Bool.false_eq_true, if_false]
  omega
end
end
end
end Go.Proofs.Ytbimapbcpmeooaa.AX

/- A plain reading of runs: numbers that are not below zero. -/
namespace Go.Proofs.Ytbimapbcpmeooaa.AX
open Go Go.RowKit
section
variable {P : Program} {t : TypeId} {l : Bool} {k' : IntKind}

theorem n_shr {k : IntKind} (s b : Nat) (hb : b ≤ k.bits) : binV P .shr t l (.int k (s : Int)) (.int k' (b : Int)) = some (.int k ((s >>> b : Nat) : Int)) := by
  rw [b_shr (Int.natCast_nonneg b)]
  have e : ((2 : Int) ^ b) = ((2 ^ b : Nat) : Int) := by simp
  rw [Int.toNat_natCast, Nat.min_eq_left hb, e, Int.fdiv_eq_ediv_of_nonneg _ (Int.natCast_nonneg _), ← Int.natCast_ediv, Nat.shiftRight_eq_div_pow]

theorem wrapN64 {n : Nat} (h : n < 2 ^ 64) : IntKind.u64.wrap (n : Int) = n := by
  have e : (2 : Nat) ^ 64 = 18446744073709551616 := by decide
  rw [e] at h
  exact wrap_u64 ⟨by omega, by omega⟩
theorem wrapN8 {n : Nat} (h : n < 256) : IntKind.u8.wrap (n : Int) = n := wrap_u8 ⟨by omega, by omega⟩

theorem ofInt_nat {w n : Nat} : BitVec.ofInt w (n : Int) = BitVec.ofNat w n := BitVec.ofInt_natCast w n

theorem n_and64 (x y : Nat) (hx : x < 2 ^ 64) (hy : y < 2 ^ 64) : binV P .and t l (.int .u64 (x : Int)) (.int .u64 (y : Int)) = some (.int .u64 ((x &&& y : Nat) : Int)) := by
  rw [b_and]
  have h1 : (BitVec.ofInt IntKind.u64.bits (x : Int) &&& BitVec.ofInt IntKind.u64.bits (y : Int)).toNat = x &&& y := by
    show (BitVec.ofInt 64 (x : Int) &&& BitVec.ofInt 64 (y : Int)).toNat = x &&& y
    rw [ofInt_nat, ofInt_nat, BitVec.toNat_and, BitVec.toNat_ofNat, BitVec.toNat_ofNat, Nat.mod_eq_of_lt hx, Nat.mod_eq_of_lt hy]
  rw [h1, wrapN64 (Nat.and_lt_two_pow x hy)]
theorem n_or64 (x y : Nat) (hx : x < 2 ^ 64) (hy : y < 2 ^ 64) : binV P .or t l (.int .u64 (x : Int)) (.int .u64 (y : Int)) = some (.int .u64 ((x ||| y : Nat) : Int)) := by
  rw [b_or]
  have h1 : (BitVec.ofInt IntKind.u64.bits (x : Int) ||| BitVec.ofInt IntKind.u64.bits (y : Int)).toNat = x ||| y := by
    show (BitVec.ofInt 64 (x : Int) ||| BitVec.ofInt 64 (y : Int)).toNat = x ||| y
    rw [ofInt_nat, ofInt_nat, BitVec.toNat_or, BitVec.toNat_ofNat, BitVec.toNat_ofNat, Nat.mod_eq_of_lt hx, Nat.mod_eq_of_lt hy]
  rw [h1, wrapN64 (Nat.or_lt_two_pow hx hy)]
theorem n_and8 (x y : Nat) (hx : x < 256) (hy : y < 256) : binV P .and t l (.int .u8 (x : Int)) (.int .u8 (y : Int)) = some (.int .u8 ((x &&& y : Nat) : Int)) := by
  rw [b_and]
  have h1 : (BitVec.ofInt IntKind.u8.bits (x : Int) &&& BitVec.ofInt IntKind.u8.bits (y : Int)).toNat = x &&& y := by
    show (BitVec.ofInt 8 (x : Int) &&& BitVec.ofInt 8 (y : Int)).toNat = x &&& y
    rw [ofInt_nat, ofInt_nat, BitVec.toNat_and, BitVec.toNat_ofNat, BitVec.toNat_ofNat, Nat.mod_eq_of_lt hx, Nat.mod_eq_of_lt hy]
  rw [h1, wrapN8 (Nat.and_lt_two_pow x (n := 8) hy)]
theorem n_shl64 (b : Nat) (hb : b < 64) : binV P .shl t l (.int .u64 1) (.int k' (b : Int)) = some (.int .u64 ((2 ^ b : Nat) : Int)) := by
  rw [b_shl (Int.natCast_nonneg b)]
  have : b ≤ IntKind.u64.bits := Nat.le_of_lt hb
  have e : ((2 : Int) ^ b) = ((2 ^ b : Nat) : Int) := by simp
  rw [Int.toNat_natCast, Nat.min_eq_left this, Int.one_mul, e, wrapN64 (Nat.pow_lt_pow_right (by decide) hb)]

/-- Whether a bit is set, as Go asks it. -/
theorem bit64 (s b : Nat) (hs : s < 2 ^ 64) (_hb : b < 64) : binV P .and t l (.int .u64 ((s >>> b : Nat) : Int)) (.int .u64 1) = some (.int .u64 (if s.testBit b then 1 else 0)) := by
  have h1 : s >>> b < 2 ^ 64 := Nat.lt_of_le_of_lt (by rw [Nat.shiftRight_eq_div_pow]; exact Nat.div_le_self _ _) hs
  have := n_and64 (P := P) (t := t) (l := l) (s >>> b) 1 h1 (by decide)
  rw [show ((1 : Nat) : Int) = 1 from rfl] at this
  rw [this, Nat.and_one_is_mod, Nat.testBit, Nat.and_comm, Nat.and_one_is_mod]
  rcases Nat.mod_two_eq_zero_or_one (s >>> b) with h | h <;> simp [h]
theorem bit8 (s b : Nat) (hs : s < 256) : binV P .and t l (.int .u8 ((s >>> b : Nat) : Int)) (.int .u8 1) = some (.int .u8 (if s.testBit b then 1 else 0)) := by
  have h1 : s >>> b < 256 := Nat.lt_of_le_of_lt (by rw [Nat.shiftRight_eq_div_pow]; exact Nat.div_le_self _ _) hs
  have := n_and8 (P := P) (t := t) (l := l) (s >>> b) 1 h1 (by decide)
  rw [show ((1 : Nat) : Int) = 1 from rfl] at this
  rw [this, Nat.and_one_is_mod, Nat.testBit, Nat.and_comm, Nat.and_one_is_mod]
  rcases Nat.mod_two_eq_zero_or_one (s >>> b) with h | h <;> simp [h]
theorem n_shr' {k : IntKind} (s b : Nat) (hb : b ≤ k.bits) : binV P .shr t l (.int k (s : Int)) (.int k' (b : Int)) = some (.int k ((s : Int) >>> b)) := by
  rw [n_shr s b hb]; rfl
theorem bit64' (s b : Nat) (hs : s < 2 ^ 64) (hb : b < 64) : binV P .and t l (.int .u64 ((s : Int) >>> b)) (.int .u64 1) = some (.int .u64 (if s.testBit b then 1 else 0)) := bit64 s b hs hb
theorem bit8' (s b : Nat) (hs : s < 256) : binV P .and t l (.int .u8 ((s : Int) >>> b)) (.int .u8 1) = some (.int .u8 (if s.testBit b then 1 else 0)) := bit8 s b hs
theorem n_shl64' (b : Nat) (hb : b < 64) : binV P .shl t l (.int .u64 1) (.int k' (b : Int)) = some (.int .u64 (2 ^ b)) := by
  rw [n_shl64 b hb]; simp
theorem or64' (s b : Nat) (hs : s < 2 ^ 64) (hb : b < 64) : binV P .or t l (.int .u64 (s : Int)) (.int .u64 (2 ^ b)) = some (.int .u64 ((s ||| 2 ^ b : Nat) : Int)) := by
  have := n_or64 (P := P) (t := t) (l := l) s (2 ^ b) hs (Nat.pow_lt_pow_right (by decide) hb)
  rw [← this]; simp

/-! ### Types, as far as a step asks for them -/
def storeV (P : Program) (t : TypeId) (H : AH) (x y : AV) : Option (Option AV × AH) := match P.info? t, x with
    | some i, .ptr r off ver => if y.isU || (acells y).length != i.size then none else (stn H r ver (acells y) off).map fun H' => (none, H')
    | _, _ => none
def notI (P : Program) (t : TypeId) : Bool := match P.underlying t with | some d => !TypeDesc.isIface d | none => false
def slSz (P : Program) (t : TypeId) : Option Nat := match P.underlying t with | some (.slice e) => (P.info? e).map (·.size) | _ => none
def arSz (P : Program) (t : TypeId) : Option (Nat × Nat) := match P.underlying t with | some (.array n e) => (P.info? e).map fun i => (n, i.size) | _ => none
def scal (P : Program) (t : TypeId) : Bool := match P.underlying t, P.info? t with | some d, some i => !isAggD d && i.size == 1 | _, _ => false
def intT (P : Program) (t : TypeId) : Option IntKind := match P.underlying t with | some (.int k) => some k | _ => none
variable {ρ : Operand → AV} {H : AH}
@[simp] theorem x_mkIface (t : TypeId) (x : Operand) : execN P ρ H (.makeInterface t x) = if notI P t then some (some (.iface t (ρ x)), H) else none := by
  show (aPure P ρ (.makeInterface t x)).map _ = _
  cases hn : notI P t with
  | true =>
    unfold notI at hn
    split at hn
    · rename_i d h; simp at hn; simp [aPure, h, hn]
    · cases hn
  | false =>
    unfold notI at hn
    split at hn
    · rename_i d h; simp at hn; simp [aPure, h, hn]
    · rename_i h; simp [aPure, h]
@[simp] theorem s_isc_cap (as : Array Operand) (ts : Array TypeId) : isFnCall (.call ⟨.builtin .cap, as, ts⟩) = false := rfl
@[simp] theorem s_isc_len (as : Array Operand) (ts : Array TypeId) : isFnCall (.call ⟨.builtin .len, as, ts⟩) = false := rfl
@[simp] theorem x_len (x : Operand) (u : TypeId) : execN P ρ H (.call ⟨.builtin .len, #[x], #[u]⟩) = val1 H (aLen P u (ρ x)) := by rw [← map_val1]; rfl
@[simp] theorem x_cap (x : Operand) (u : TypeId) : execN P ρ H (.call ⟨.builtin .cap, #[x], #[u]⟩) = val1 H (aCap P u (ρ x)) := by rw [← map_val1]; rfl
theorem cap_nil {u : TypeId} {n : Nat} (h : slSz P u = some n) (off len ver sz : Nat) (full : Bool) : aCap P u (.slice none off len ver sz full) = some (.int .i64 0) := by
  unfold slSz at h
  unfold aCap
  split at h
  · rename_i e he; rw [he]
  · cases h
theorem len_sl {u : TypeId} {n : Nat} (h : slSz P u = some n) (r : Option Nat) (off len ver sz : Nat) (full : Bool) : aLen P u (.slice r off len ver sz full) = some (.int .i64 len) := by
  unfold slSz at h
  unfold aLen
  split at h
  · rename_i e he; rw [he]
  · cases h
theorem ixa_sl {u : TypeId} {n : Nat} (h : slSz P u = some n) (r : Nat) (off len ver : Nat) (full : Bool) (k : IntKind) (i : Int) : aIndexAddr P u (.slice (some r) off len ver n full) (.int k i) = if 0 ≤ i ∧ i < len then some (.ptr r (off + i.toNat * n) ver) else none := by
  unfold slSz at h
  unfold aIndexAddr
  split at h
  · rename_i e he
    rw [he]
    cases hi : P.info? e with
    | none => rw [hi] at h; cases h
    | some ie => rw [hi] at h; simp at h; simp [h, hi]
  · cases h
theorem ixa_ar {u : TypeId} {n z : Nat} (h : arSz P u = some (n, z)) (r : Nat) (off ver : Nat) (k : IntKind) (i : Int) : aIndexAddr P u (.ptr r off ver) (.int k i) = if 0 ≤ i ∧ i < n then some (.ptr r (off + i.toNat * z) ver) else none := by
  unfold arSz at h
  unfold aIndexAddr
  split at h
  · rename_i m e he
    rw [he]
    cases hi : P.info? e with
    | none => rw [hi] at h; cases h
    | some ie => rw [hi] at h; simp at h; simp [h, hi]
  · cases h
theorem ld_sc {u : TypeId} (h : scal P u = true) (r off ver : Nat) : loadV P u H (.ptr r off ver) = ld H r off ver := by
  unfold scal at h
  unfold loadV
  split at h
  · rename_i d i h1 h2
    simp at h
    simp [h1, h2, h.1]
  · cases h
theorem cv_int {u v : TypeId} {k k0 : IntKind} (h1 : (P.underlying u).isSome = true) (h : intT P v = some k) (n : Int) : aConv P u v (.int k0 n) = some (.int k (k.wrap n)) := by
  unfold intT at h
  unfold aConv
  split at h
  · rename_i k' he
    cases h
    cases hu : P.underlying u with
    | none => rw [hu] at h1; cases h1
    | some d => rw [he]
  · cases h
@[simp] theorem x_store (u : TypeId) (x y : Operand) : execN P ρ H (.store u x y) = storeV P u H (ρ x) (ρ y) := rfl
theorem ite_beq_one (c : Bool) : ((if c = true then (1 : Int) else 0) == 1) = c := by cases c <;> rfl
end

/-- What a run over no rows gives, it gives over all. -/
theorem AC_kern {P : Program} {C : Cx P} (hC : C.Ok) (n : Nat) {f : FuncId} {args : List AV} {v : AV} {H : AH} {Q : AV → AH → Prop} (h : runF C n f args [] = some (v, [])) (ha : Bels 0 args) (hv : Bel 0 v) (hq : Q v H) : AC P f args H Q :=
  ((AC_run hC n h).closed ha hv H).mono fun v' H' ⟨h1, h2⟩ => by rw [h1, h2]; exact hq

/-- A slice of ints that holds a list. -/
def Ls (H : AH) (v : AV) (l : List Int) : Prop :=
  ∃ r off ver sz full, v = .slice r off l.length ver sz full ∧ ∀ i (h : i < l.length), ∃ r', r = some r' ∧ sz = 1 ∧ ld H r' (off + i) ver = some (.int .i64 l[i])
theorem Ls.nil (H : AH) : Ls H (.slice none 0 0 0 1 false) [] := ⟨none, 0, 0, 1, false, rfl, fun i h => by simp at h⟩
end Go.Proofs.Ytbimapbcpmeooaa.AX

/- A plain reading of runs: a list of statements. -/
namespace Go.Proofs.Ytbimapbcpmeooaa.AX
open Go Go.RowKit
section
variable {P : Program} {nt : Nat} {e : Env} {H : AH}

def flat : Code → List Code
  | .seq a b => flat a ++ flat b
  | .skip => []
  | .label _ => []
  | c => [c]

def AWL (P : Program) (nt : Nat) : List Code → Env → AH → (Ex → Env → AH → Prop) → Prop
  | [], e, H, Q => Q .normal e H
  | c :: cs, e, H, Q => AW P nt c e H fun x e' H' => match x with | .normal => AWL P nt cs e' H' Q | x => Q x e' H'

/-- What holds after a statement, when others follow. -/
def More (P : Program) (nt : Nat) (cs : List Code) (Q : Ex → Env → AH → Prop) : Ex → Env → AH → Prop
  | .normal, e, H => AWL P nt cs e H Q
  | x, e, H => Q x e H

theorem AWL_cons {c : Code} {cs : List Code} {Q : Ex → Env → AH → Prop} (h : AW P nt c e H (More P nt cs Q)) : AWL P nt (c :: cs) e H Q :=
  h.mono fun x e' H' hx => by cases x <;> exact hx
theorem AWL_uncons {c : Code} {cs : List Code} {Q : Ex → Env → AH → Prop} (h : AWL P nt (c :: cs) e H Q) : AW P nt c e H (More P nt cs Q) :=
  AW.mono h fun x e' H' hx => by cases x <;> exact hx

theorem AWL_flat : ∀ (c : Code) (cs : List Code) (e : Env) (H : AH) (Q : Ex → Env → AH → Prop), AWL P nt (flat c ++ cs) e H Q → AWL P nt (c :: cs) e H Q := by
  intro c
  induction c with
  | seq a b iha ihb =>
    intro cs e H Q h
    rw [flat, List.append_assoc] at h
    refine AWL_cons (AW_seq ?_)
    refine (AWL_uncons (iha _ _ _ _ h)).mono ?_
    intro x e' H' hx
    cases x with
    | normal => exact (AWL_uncons (ihb _ _ _ _ hx))
    | exit i => exact hx
    | goto i => exact hx
    | ret => exact hx
  | skip => intro cs e H Q h; exact AWL_cons (AW_skip h)
  | label l => intro cs e H Q h; exact AWL_cons (AW_label h)
  | region => intro cs e H Q h; exact h
  | cond => intro cs e H Q h; exact h
  | block => intro cs e H Q h; exact h
  | loop => intro cs e H Q h; exact h
  | exit => intro cs e H Q h; exact h
  | goto => intro cs e H Q h; exact h
  | ret => intro cs e H Q h; exact h
  | rangeFunc => intro cs e H Q h; exact h
  | scope => intro cs e H Q h; exact h
  | refuse => intro cs e H Q h; exact h

theorem AW_of_flat {c : Code} {Q : Ex → Env → AH → Prop} (h : AWL P nt (flat c) e H Q) : AW P nt c e H Q := by
  have := AWL_uncons (AWL_flat c [] e H Q (by rw [List.append_nil]; exact h))
  exact this.mono fun x e' H' hx => by cases x <;> exact hx

/-- A function's body. -/
theorem L_body {f : FuncId} {fn : Func} {c : Code} {args : List AV} (nt : Nat) {Q : AV → AH → Prop} (hf : P.funcs[f]? = some fn) (hb : fn.body = some c) (hnt : nt = max args.length fn.ntmps)
    (h : AWL P nt (flat c) (argsEnv 0 args) H fun x e' H' => (x = .normal ∨ x = .ret) ∧ ∃ v, aResults P fn e' H' = some v ∧ Q v H') : AC P f args H Q :=
  AC_of_body hf hb hnt (AW_of_flat h)

/-- The region that comes first. -/
theorem L_reg {id : Nat} {l : List Oper} {cs : List Code} {Q : Ex → Env → AH → Prop} (ks : List Nat) (h : ∀ K : Env → AH → Prop, (∀ e' H', AWL P nt cs e' H' Q → K e' H') → wpO P nt l.toArray l e H fun e H => K (ekeep ks e) H) : AWL P nt (.region id l.toArray false :: cs) e H Q :=
  AWL_cons (AW_region ks (wpO_sound (h (fun e' H' => AWL P nt cs e' H' Q) fun _e' _H' h => h)))
/-- One whose order is drawn. -/
theorem L_draw {id : Nat} {ops : Array Oper} {cs : List Code} {Q : Ex → Env → AH → Prop} (h : AW P nt (.region id ops true) e H (More P nt cs Q)) : AWL P nt (.region id ops true :: cs) e H Q := AWL_cons h
theorem L_block {id : Nat} {c : Code} {cs : List Code} {Q : Ex → Env → AH → Prop} (h : AWL P nt (flat c) e H (Out id (More P nt cs Q))) : AWL P nt (.block id c :: cs) e H Q := AWL_cons (AW_block (AW_of_flat h))
/-- A block, and what holds behind it. -/
theorem L_blockR {id : Nat} {c : Code} {cs : List Code} {Q : Ex → Env → AH → Prop} (R : Env → AH → Prop) (h : AWL P nt (flat c) e H (Out id fun x e' H' => match x with | .normal => R e' H' | x => Q x e' H')) (hout : ∀ e' H', R e' H' → AWL P nt cs e' H' Q) : AWL P nt (.block id c :: cs) e H Q :=
  AWL_cons ((AW_block (AW_of_flat h)).mono fun x e' H' hx => by
    cases x with
    | normal => exact hout _ _ hx
    | exit i => exact hx
    | goto i => exact hx
    | ret => exact hx)
theorem L_true {x : Operand} {c d : Code} {cs : List Code} {Q : Ex → Env → AH → Prop} (hc : oval e x = .bool true) (h : AWL P nt (flat c ++ cs) e H Q) : AWL P nt (.cond x c d :: cs) e H Q :=
  AWL_cons (AW_cond_true hc (AWL_uncons (AWL_flat _ _ _ _ _ h)))
theorem L_false {x : Operand} {c d : Code} {cs : List Code} {Q : Ex → Env → AH → Prop} (hc : oval e x = .bool false) (h : AWL P nt (flat d ++ cs) e H Q) : AWL P nt (.cond x c d :: cs) e H Q :=
  AWL_cons (AW_cond_false hc (AWL_uncons (AWL_flat _ _ _ _ _ h)))
theorem L_split {x : Operand} {c d : Code} {t : Bool} {cs : List Code} {Q : Ex → Env → AH → Prop} (hc : oval e x = .bool t) (h1 : t = true → AWL P nt (flat c ++ cs) e H Q) (h2 : t = false → AWL P nt (flat d ++ cs) e H Q) : AWL P nt (.cond x c d :: cs) e H Q := by
  cases t with
  | true => exact L_true hc (h1 rfl)
  | false => exact L_false hc (h2 rfl)
theorem L_dec {x : Operand} {c d : Code} (p : Prop) [Decidable p] {cs : List Code} {Q : Ex → Env → AH → Prop} (hc : oval e x = .bool (decide p)) (h1 : p → AWL P nt (flat c ++ cs) e H Q) (h2 : ¬ p → AWL P nt (flat d ++ cs) e H Q) : AWL P nt (.cond x c d :: cs) e H Q :=
  L_split hc (fun h => h1 (of_decide_eq_true h)) (fun h => h2 (of_decide_eq_false h))
theorem L_loop {c : Code} {cs : List Code} {Q : Ex → Env → AH → Prop} (I : Nat → Env → AH → Prop) (n0 : Nat) (h0 : I n0 e H)
    (round : ∀ n e H, I n e H → AWL P nt (flat c) e H fun x e' H' => match x with | .normal => ∃ n', n' < n ∧ I n' e' H' | x => More P nt cs Q x e' H') : AWL P nt (.loop c :: cs) e H Q :=
  AWL_cons (AW_loop I n0 h0 fun n e H h => AW_of_flat (round n e H h))
theorem L_exit {i : Nat} {cs : List Code} {Q : Ex → Env → AH → Prop} (h : Q (.exit i) e H) : AWL P nt (.exit i :: cs) e H Q := AWL_cons (AW_exit h)
theorem L_goto {i : Nat} {cs : List Code} {Q : Ex → Env → AH → Prop} (h : Q (.goto i) e H) : AWL P nt (.goto i :: cs) e H Q := AWL_cons (AW_goto h)
theorem L_ret {cs : List Code} {Q : Ex → Env → AH → Prop} (h : Q .ret e H) : AWL P nt (.ret :: cs) e H Q := AWL_cons (AW_ret h)
/-- A loop over a function. -/
theorem L_range (ks : List Nat) {g : Operand} {ps : Array Tmp} {a b : Code} {cs : List Code} {Q : Ex → Env → AH → Prop} {f : FuncId} {caps : List AV} (hg : oval e g = .func (.func f) [] caps) (hok : okFn P f = true)
    (h : AC P f (.yld H.length :: caps) (H ++ [.loop .ready .normal ⟨nt, ekeep ks e, ps, a, b⟩]) fun _ H' => ∃ s pe L, H'[H.length]? = some (.loop s pe L) ∧ s ≠ .busy ∧ More P nt cs Q pe (ekeep ks e) (H'.set H.length (.loop .exhausted pe L))) :
    AWL P nt (.rangeFunc g ps a b :: cs) e H Q := AWL_cons (AW_rangeFunc_keep ks hg hok h)
/-- A round. -/
theorem AYld_mk {r : Nat} {args : List AV} {K : AV → AH → Prop} {pe : Ex} {L : LR} (hrow : H[r]? = some (.loop .ready pe L)) (hl : args.length = L.ps.size) (hp : (L.ps.all fun p => decide (p < L.nt)) = true) (ha : L.assign = .skip)
    (h : AWL P L.nt (flat L.body) (psEnv L.ps.toList args L.e) (H.set r (.loop .busy pe L)) fun x2 _ H2 => ∃ s2 pe2 L2, H2[r]? = some (.loop s2 pe2 L2) ∧ K (.bool (decide (x2 = .normal))) (H2.set r (.loop (if x2 = .normal then .ready else .done) x2 L2))) : AYld P r args H K :=
  ⟨pe, L, hrow, hl, hp, by rw [ha]; exact AW_skip ⟨rfl, pe, L, hrow, AW_of_flat h⟩⟩
theorem AYld_mkA {r : Nat} {args : List AV} {K : AV → AH → Prop} {pe : Ex} {L : LR} (hrow : H[r]? = some (.loop .ready pe L)) (hl : args.length = L.ps.size) (hp : (L.ps.all fun p => decide (p < L.nt)) = true)
    (h : AWL P L.nt (flat L.assign) (psEnv L.ps.toList args L.e) H fun x e1 H1 => x = .normal ∧ ∃ pe1 L1, H1[r]? = some (.loop .ready pe1 L1) ∧
      AWL P L.nt (flat L.body) e1 (H1.set r (.loop .busy pe1 L1)) fun x2 _ H2 => ∃ s2 pe2 L2, H2[r]? = some (.loop s2 pe2 L2) ∧ K (.bool (decide (x2 = .normal))) (H2.set r (.loop (if x2 = .normal then .ready else .done) x2 L2))) : AYld P r args H K :=
  ⟨pe, L, hrow, hl, hp, (AW_of_flat h).mono fun _x _e1 _H1 ⟨g1, pe1, L1, g2, g3⟩ => ⟨g1, pe1, L1, g2, AW_of_flat g3⟩⟩
theorem AYld.mono {r : Nat} {args : List AV} {K K' : AV → AH → Prop} (h : AYld P r args H K) (hk : ∀ v H', K v H' → K' v H') : AYld P r args H K' := by
  obtain ⟨pe, L, h1, h2, h3, h4⟩ := h
  exact ⟨pe, L, h1, h2, h3, h4.mono fun x e1 H1 ⟨g1, pe1, L1, g2, g3⟩ => ⟨g1, pe1, L1, g2, g3.mono fun x2 e2 H2 ⟨s2, pe2, L2, k1, k2⟩ => ⟨s2, pe2, L2, k1, hk _ _ k2⟩⟩⟩
end
end Go.Proofs.Ytbimapbcpmeooaa.AX

/- A plain reading of runs: lists that grow. -/
namespace Go.Proofs.Ytbimapbcpmeooaa.AX
open Go Go.RowKit

/-- A slice that nobody else holds, of one cell each. -/
def Own (H : AH) (v : AV) (l : List AV) : Prop :=
  (l = [] ∧ v = .slice none 0 0 0 1 false) ∨ ∃ r ver stale, v = .slice (some r) 0 l.length ver 1 false ∧ H[r]? = some (.row l ver stale false)

theorem Own.nil (H : AH) : Own H (.slice none 0 0 0 1 false) [] := .inl ⟨rfl, rfl⟩

/-- What lies in a heap, but for a slice's own row, lies in another one, too. -/
def Stays (v : AV) (H H' : AH) : Prop := H.length ≤ H'.length ∧ ∀ j, j < H.length → (∀ off len ver sz f, v ≠ .slice (some j) off len ver sz f) → H'[j]? = H[j]?

def elT (P : Program) (t : TypeId) : Bool := match P.underlying t with
  | some (.slice e) => match tiOf P e with | some I => I.size == 1 && decide (I.bytes ≤ 4096) && I.zero.length == 1 | none => false
  | _ => false

section
variable {P : Program} {H : AH}
theorem elT_some {t : TypeId} (h : elT P t = true) : ∃ e I, P.underlying t = some (.slice e) ∧ tiOf P e = some I ∧ I.size = 1 ∧ I.bytes ≤ 4096 ∧ I.zero.length = 1 := by
  unfold elT at h
  split at h
  · rename_i e he
    split at h
    · rename_i I hI
      simp at h
      exact ⟨e, I, he, hI, h.1.1, h.1.2, h.2⟩
    · cases h
  · cases h

theorem Own.ls {v : AV} {l : List Int} (h : Own H v (l.map (.int .i64))) : Ls H v l := by
  rcases h with ⟨h1, rfl⟩ | ⟨r, ver, stale, rfl, hr⟩
  · have : l = [] := by simpa using h1
    subst this
    exact Ls.nil H
  · refine ⟨some r, 0, ver, 1, false, by simp, fun i hi => ⟨r, rfl, rfl, ?_⟩⟩
    simp [ld, hr, hi, known]

theorem Own.len {v : AV} {l : List AV} (h : Own H v l) : ∃ r ver, v = .slice r 0 l.length ver 1 false := by
  rcases h with ⟨rfl, rfl⟩ | ⟨r, ver, stale, rfl, hr⟩
  · exact ⟨none, 0, rfl⟩
  · exact ⟨some r, ver, rfl⟩

theorem own_append {t u : TypeId} (ht : elT P t = true) (hu : elT P u = true) {v x : AV} {l : List AV} {m : Nat} (ho : Own H v l) (hx : x.one = true) (hlen : l.length < 16777216) :
    ∃ v' H', aAppend P (H ++ [.row [x] 0 m false]) t u v (.slice (some H.length) 0 1 0 1 false) = some (v', H') ∧ Own H' v' (l ++ [x]) ∧ Stays v H H' := by
  obtain ⟨e, I, h1, h2, h3, h4, -⟩ := elT_some ht
  obtain ⟨e', I', g1, -⟩ := elT_some hu
  have hsrc : aSrc P (H ++ [.row [x] 0 m false]) u 1 (.slice (some H.length) 0 1 0 1 false) = some (1, [x]) := by
    cases x <;> simp_all [aSrc, ldn, takeKnown, AV.one]
  unfold aAppend
  rcases ho with ⟨rfl, rfl⟩ | ⟨r, ver, stale, rfl, hr⟩
  · refine ⟨.slice (some (H.length + 1)) 0 1 0 1 false, H ++ [.row [x] 0 m false] ++ [.row [x] 0 0 false], ?_, .inr ⟨H.length + 1, 0, 0, by simp, by simp⟩, by simp, fun j hj _ => ?_⟩
    · simp [h1, h2, h3, h4, hsrc, hx]
    · rw [List.append_assoc, List.getElem?_append_left hj]
  · have hlt : r < H.length := (List.getElem?_eq_some_iff.1 hr).1
    have hr' : (H ++ [.row [x] 0 m false])[r]? = some (.row l ver stale false) := by rw [List.getElem?_append_left hlt]; exact hr
    refine ⟨.slice (some r) 0 (l.length + 1) (ver + 1) 1 false, (H ++ [AObj.row [x] 0 m false]).set r (AObj.row (l ++ [x]) (ver + 1) (min stale l.length) false), ?_, .inr ⟨r, ver + 1, min stale l.length, by simp, ?_⟩, by simp, fun j hj hne => ?_⟩
    · have : l.length + 1 ≤ 16777216 := hlen
      have hin : inPlace (H ++ [AObj.row [x] 0 m false]) r 0 l.length 1 ver 1 [x] = none := by simp [inPlace, hr']; omega
      simp [h1, h2, h3, h4, hsrc, hx, grow, hr', this, hin]
    · rw [List.getElem?_set]
      simp; omega
    · have hjr : r ≠ j := fun h => hne 0 l.length ver 1 false (by rw [h])
      rw [List.getElem?_set_ne hjr, List.getElem?_append_left hj]

def appV : Option (AV × AH) → Option (Option AV × AH)
  | some (v, H) => some (some v, H)
  | none => none
@[simp] theorem s_appV (v : AV) (H : AH) : appV (some (v, H)) = some (some v, H) := rfl
variable {ρ : Operand → AV}
@[simp] theorem s_isc_append (as : Array Operand) (ts : Array TypeId) : isFnCall (.call ⟨.builtin .append, as, ts⟩) = false := rfl
@[simp] theorem x_append (x y : Operand) (t u : TypeId) : execN P ρ H (.call ⟨.builtin .append, #[x, y], #[t, u]⟩) = appV (orApp (aAppend P H t u (ρ x) (ρ y)) (aAppMake P H t u (ρ x) (ρ y))) := by
  have : execN P ρ H (.call ⟨.builtin .append, #[x, y], #[t, u]⟩) = (orApp (aAppend P H t u (ρ x) (ρ y)) (aAppMake P H t u (ρ x) (ρ y))).map fun p => (some p.1, p.2) := rfl
  rw [this]
  cases orApp (aAppend P H t u (ρ x) (ρ y)) (aAppMake P H t u (ρ x) (ρ y)) <;> rfl
/-- A row of values. -/
def rowV (P : Program) (t : TypeId) (n : Nat) (vs : List (Nat × AV)) (H : AH) : Option (Option AV × AH) :=
  match P.underlying t with
  | some (.slice e) => match tiOf P e with
    | some I =>
      if n * I.size ≤ 16777216 ∧ (n = 0 ∨ 0 < I.size) then
        (aFill (fun i => some (i * I.size, I.size)) ((List.range (n * I.size)).map fun i => (I.zero[i % I.zero.length]?).getD .undef) vs).map fun cells =>
          (some (.slice (some H.length) 0 n 0 I.size false), H ++ [.row cells 0 cells.length false])
      else none
    | none => none
  | _ => none
@[simp] theorem x_buildSlice (t : TypeId) (n : Nat) (ps : Array (Nat × Operand)) : execN P ρ H (.buildSlice t n ps) = rowV P t n (ps.toList.map fun x => (x.1, ρ x.2)) H := rfl
theorem row1 {t : TypeId} (ht : elT P t = true) {x : AV} (hx : x.one = true) (hc : acells x = [x]) : rowV P t 1 [(0, x)] H = some (some (.slice (some H.length) 0 1 0 1 false), H ++ [.row [x] 0 1 false]) := by
  obtain ⟨e, I, h1, h2, h3, h4, hzz⟩ := elT_some ht
  have hu : x.isU = false := by cases x <;> simp_all [AV.one, AV.isU]
  simp [rowV, h1, h2, h3, aFill, hu, hc, hzz, List.range_succ]
end
end Go.Proofs.Ytbimapbcpmeooaa.AX

/- A plain reading of runs: loops by what they vary; rows that one knows. -/
namespace Go.Proofs.Ytbimapbcpmeooaa.AX
open Go Go.RowKit

def esets : Env → List Nat → List AV → Env
  | e, t :: ts, v :: vs => esets (eset e t v) ts vs
  | e, _, _ => e
@[simp] theorem esets_cons (e : Env) (t : Nat) (ts : List Nat) (v : AV) (vs : List AV) : esets e (t :: ts) (v :: vs) = esets (eset e t v) ts vs := rfl
@[simp] theorem esets_nil (e : Env) (vs : List AV) : esets e [] vs = e := by cases vs <;> rfl

section
variable {P : Program} {nt : Nat} {e : Env} {H : AH}
theorem AWL_mono {Q Q' : Ex → Env → AH → Prop} (hq : ∀ x e H, Q x e H → Q' x e H) : ∀ {cs : List Code} {e : Env} {H : AH}, AWL P nt cs e H Q → AWL P nt cs e H Q'
  | [], _, _, h => hq _ _ _ h
  | c :: cs, e, H, h => by
    refine AWL_cons ((AWL_uncons h).mono fun x e' H' hx => ?_)
    cases x with
    | normal => exact AWL_mono hq hx
    | exit i => exact hq _ _ _ hx
    | goto i => exact hq _ _ _ hx
    | ret => exact hq _ _ _ hx
/-- A loop, by the slots that it varies. -/
theorem L_loopV {c : Code} {cs : List Code} {Q : Ex → Env → AH → Prop} (ts : List Nat) (I : Nat → List AV → AH → Prop) (n0 : Nat) (vs0 : List AV) (he : esets e ts vs0 = e) (h0 : I n0 vs0 H)
    (round : ∀ n vs H, I n vs H → AWL P nt (flat c) (esets e ts vs) H fun x e' H' => match x with | .normal => ∃ n' vs', n' < n ∧ e' = esets e ts vs' ∧ I n' vs' H' | x => More P nt cs Q x e' H') : AWL P nt (.loop c :: cs) e H Q := by
  refine L_loop (fun n e1 H1 => ∃ vs, e1 = esets e ts vs ∧ I n vs H1) n0 ⟨vs0, he.symm, h0⟩ ?_
  rintro n _ H1 ⟨vs, rfl, hI⟩
  refine AWL_mono (fun x e' H' hx => ?_) (round n vs H1 hI)
  cases x with
  | normal => obtain ⟨n', vs', h1, h2, h3⟩ := hx; exact ⟨n', h1, vs', h2, h3⟩
  | exit i => exact hx
  | goto i => exact hx
  | ret => exact hx
end

/-! ### Rows at the heap's end -/
section
variable {H T : AH} {c : List AV} {v s p : Nat} {ro : Bool}
@[simp] theorem known_int (k : IntKind) (n : Int) : known (some (.int k n)) = some (.int k n) := rfl
@[simp] theorem known_bool (b : Bool) : known (some (.bool b)) = some (.bool b) := rfl
theorem ld_last : ld (H ++ [.row c v s ro]) H.length p v = known c[p]? := by simp [ld]
theorem ld_lt {r ver : Nat} {x : AV} (h : ld H r p ver = some x) : r < H.length := by
  unfold ld at h
  split at h
  · rename_i hr; exact (List.getElem?_eq_some_iff.1 hr).1
  · cases h
theorem ld_app {r ver : Nat} (h : r < H.length) : ld (H ++ T) r p ver = ld H r p ver := by
  simp only [ld, List.getElem?_append_left h]
theorem ld_app' {r ver : Nat} {x : AV} (h : ld H r p ver = some x) : ld (H ++ T) r p ver = some x := by rw [ld_app (ld_lt h), h]
theorem Ls.app {u : AV} {l : List Int} (h : Ls H u l) (T : AH) : Ls (H ++ T) u l := by
  obtain ⟨r, off, ver, sz, full, rfl, hl⟩ := h
  refine ⟨r, off, ver, sz, full, rfl, fun i hi => ?_⟩
  obtain ⟨r', h1, h2, h3⟩ := hl i hi
  exact ⟨r', h1, h2, ld_app' h3⟩
theorem Ls.last (l : List Int) (f : Bool) : Ls (H ++ [.row (l.map (.int .i64)) v s ro]) (.slice (some H.length) 0 l.length v 1 f) l :=
  ⟨some H.length, 0, v, 1, f, rfl, fun i hi => ⟨H.length, rfl, rfl, by rw [ld_last]; simp [hi]⟩⟩
theorem Own.last (l : List AV) : Own (H ++ [.row l v s false]) (.slice (some H.length) 0 l.length v 1 false) l :=
  .inr ⟨H.length, v, s, rfl, by simp⟩

theorem st_last {x : AV} (hx : x.one = true) {y : AV} (hp : known c[p]? = some y) : st (H ++ [.row c v s false]) H.length p v x = some (H ++ [.row (c.set p x) v (min s p) false]) := by
  simp [st, hx, hp]

theorem store_sc {P : Program} {u : TypeId} (h : scal P u = true) {r off ver : Nat} {x : AV} (hx : x.one = true) : storeV P u H (.ptr r off ver) x = match st H r off ver x with | some H' => some (none, H') | none => none := by
  unfold scal at h
  split at h
  case h_2 => cases h
  rename_i d i h1 h2
  simp only [Bool.and_eq_true, beq_iff_eq] at h
  have ha : x.isU = false ∧ acells x = [x] := by cases x <;> simp_all [AV.one, AV.isU, acells]
  simp only [storeV, h2, ha.1, ha.2, List.length_singleton, h.2, Bool.false_or, bne_self_eq_false, Bool.false_eq_true, if_false, stn_cons, stn_nil]
  cases st H r off ver x <;> rfl
theorem store_last {P : Program} {u : TypeId} (h : scal P u = true) {x y : AV} (hx : x.one = true) (hp : known c[p]? = some y) :
    storeV P u (H ++ [.row c v s false]) (.ptr H.length p v) x = some (none, H ++ [.row (c.set p x) v (min s p) false]) := by
  rw [store_sc h hx, st_last hx hp]

/-- make. -/
def makeV (P : Program) (t : TypeId) (H : AH) (l c : AV) : Option (Option AV × AH) :=
  match P.underlying t, l, c with
    | some (.slice e), .int .i64 l, .int .i64 c =>
      match tiOf P e with
      | some I =>
        if 0 ≤ l ∧ l ≤ c ∧ c ≤ 16777216 ∧ I.bytes ≤ 4096 ∧ 0 < I.size then
          some (some (.slice (some H.length) 0 l.toNat 0 I.size false), H ++ [.row ((List.range (l.toNat * I.size)).map fun i => (I.zero[i % I.zero.length]?).getD .undef) 0 0 false])
        else none
      | none => none
    | _, _, _ => none
@[simp] theorem x_makeSlice {P : Program} {ρ : Operand → AV} (t : TypeId) (x y : Operand) : execN P ρ H (.makeSlice t x y) = makeV P t H (ρ x) (ρ y) := rfl
def elZ (P : Program) (t : TypeId) : Option AV := match P.underlying t with
  | some (.slice e) => match tiOf P e with | some I => if I.size = 1 ∧ I.bytes ≤ 4096 then (match I.zero with | [z] => some z | _ => none) else none | none => none
  | _ => none
theorem make_z {P : Program} {t : TypeId} {z : AV} (h : elZ P t = some z) {n : Nat} (hn : n ≤ 16777216) : makeV P t H (.int .i64 n) (.int .i64 n) = some (some (.slice (some H.length) 0 n 0 1 false), H ++ [.row (List.replicate n z) 0 0 false]) := by
  unfold elZ at h
  split at h
  case h_2 => cases h
  rename_i e he
  split at h
  case h_2 => cases h
  rename_i I hI
  split at h
  case isFalse => cases h
  rename_i hc
  split at h
  case h_2 => cases h
  rename_i z' hz
  cases h
  have : (List.range n).map (fun i => (([z] : List AV)[i % 1]?).getD .undef) = List.replicate n z := by
    rw [List.eq_replicate_iff]
    refine ⟨by simp, fun b hb => ?_⟩
    obtain ⟨i, -, rfl⟩ := List.mem_map.1 hb
    simp [Nat.mod_one]
  simp only [makeV, he, hI, hz, hc.1]
  rw [if_pos ⟨by omega, Int.le_refl _, by omega, hc.2, by omega⟩]
  simp [this]

/-- Which function a method's name is. -/
def invF (P : Program) (t : TypeId) (name : String) : Option FuncId := match P.info? t, P.underlying t with
      | some i, some d =>
        match i.methods.find? (·.name == name) with
        | some m =>
          match m.path.toList, m.func with
          | [], some (g, p) => if okFn P g && (p == isPtrD d) then some g else none
          | _, _ => none
        | none => none
      | _, _ => none
def invS (P : Program) (name : String) (v : AV) (as : List AV) : Option (FuncId × List AV) := match v with
  | .iface t v => match invF P t name with | some g => some (g, v :: as) | none => none
  | _ => none
@[simp] theorem opcall_inv {P : Program} {ρ : Operand → AV} {x : Operand} {name : String} {as : Array Operand} {ts : Array TypeId} : opCall P ρ (.call ⟨.invoke x name, as, ts⟩) = invS P name (ρ x) (as.toList.map ρ) := by
  simp only [opCall, invS]
  cases hx : ρ x <;> try rfl
  rename_i t v
  simp only [invF]
  cases P.info? t <;> cases P.underlying t <;> try rfl
  rename_i i d
  simp only
  cases i.methods.find? (·.name == name) with
  | none => rfl
  | some m =>
    simp only
    cases m.path.toList with
    | nil =>
      cases m.func with
      | none => rfl
      | some g =>
        obtain ⟨g, p⟩ := g
        simp only
        by_cases hc : (okFn P g && (p == isPtrD d)) = true <;> simp [hc]
    | cons a l => rfl
theorem invS_some {P : Program} {name : String} {t : TypeId} {v : AV} {as : List AV} {g : FuncId} (h : invF P t name = some g) : invS P name (.iface t v) as = some (g, v :: as) := by simp [invS, h]

/-- All rows of H are in H', as they were. -/
def Ext (H H' : AH) : Prop := H.length ≤ H'.length ∧ ∀ j, j < H.length → H'[j]? = H[j]?
theorem Ext.refl (H : AH) : Ext H H := ⟨Nat.le_refl _, fun _ _ => rfl⟩
theorem Ext.trans {A B C : AH} (h : Ext A B) (k : Ext B C) : Ext A C := ⟨Nat.le_trans h.1 k.1, fun j hj => by rw [k.2 j (by have := h.1; omega), h.2 j hj]⟩
theorem Ext.push (H T : AH) : Ext H (H ++ T) := ⟨by simp, fun j hj => List.getElem?_append_left hj⟩
theorem Ext.set {H1 : AH} {r : Nat} (o : AObj) (h : Ext H H1) (hr : H.length ≤ r) : Ext H (H1.set r o) := ⟨by simpa using h.1, fun j hj => by rw [List.getElem?_set_ne (by omega)]; exact h.2 j hj⟩
theorem Ext.row {H1 : AH} (h : Ext H H1) {r : Nat} {o : AObj} (hr : H[r]? = some o) : H1[r]? = some o := by rw [h.2 r (List.getElem?_eq_some_iff.1 hr).1]; exact hr
theorem Ext.ld {H1 : AH} (h : Ext H H1) {r ver : Nat} {x : AV} (hx : ld H r p ver = some x) : AX.ld H1 r p ver = some x := by
  have := h.2 r (ld_lt hx)
  unfold AX.ld at hx ⊢
  rw [this]; exact hx
theorem Ext.app {A B : AH} (h : Ext A B) : ∃ T, B = A ++ T := by
  refine ⟨B.drop A.length, ?_⟩
  have : B.take A.length = A := by
    apply List.ext_getElem?
    intro j
    rcases Nat.lt_or_ge j A.length with hj | hj
    · rw [List.getElem?_take_of_lt hj, h.2 j hj]
    · rw [List.getElem?_eq_none (by simp; omega), List.getElem?_eq_none hj]
  rw [← this, List.length_take, Nat.min_eq_left h.1]
  rw [show (B.take A.length) ++ B.drop A.length = B from List.take_append_drop _ _]
theorem gfind_app : ∀ {H T : AH} {g : Nat} {c : List AV}, gfind H g = some c → gfind (H ++ T) g = some c
  | .gvar g' c' :: H, T, g, c, h => by
    simp only [gfind, List.cons_append] at h ⊢
    split at h
    · rename_i e; rw [if_pos e]; exact h
    · rename_i e; rw [if_neg e]; exact gfind_app h
  | .row _ _ _ _ :: H, T, g, c, h => by simp only [gfind, List.cons_append] at h ⊢; exact gfind_app h
  | .map _ :: H, T, g, c, h => by simp only [gfind, List.cons_append] at h ⊢; exact gfind_app h
  | .loop _ _ _ :: H, T, g, c, h => by simp only [gfind, List.cons_append] at h ⊢; exact gfind_app h
  | .iter _ _ :: H, T, g, c, h => by simp only [gfind, List.cons_append] at h ⊢; exact gfind_app h
theorem Ext.gv {A B : AH} (h : Ext A B) {g : Nat} {c : List AV} (hg : gfind A g = some c) : gfind B g = some c := by
  obtain ⟨T, rfl⟩ := h.app
  exact gfind_app hg
theorem HasG.ext {A B : AH} {gs : List (Nat × List AV)} (h : HasG gs A) (hE : Ext A B) : HasG gs B := fun x hx => ⟨hE.gv (h x hx).1, (h x hx).2⟩
theorem endOk_ext {A B : AH} (h : Ext A B) {r e : Nat} (he : endOk A r e = true) : endOk B r e = true := by
  unfold endOk at he ⊢
  split at he
  · rename_i hr; rw [h.row hr]; exact he
  · cases he
theorem endOk_same {A B : AH} (h : Ext A B) {r p ver : Nat} (hl : (AX.ld A r p ver).isSome = true) (e : Nat) : endOk B r e = endOk A r e := by
  obtain ⟨x, hx⟩ := Option.isSome_iff_exists.1 hl
  unfold endOk
  rw [h.2 r (ld_lt hx)]
theorem Ls.ext {H1 : AH} {u : AV} {l : List Int} (h : Ls H u l) (hE : Ext H H1) : Ls H1 u l := by
  obtain ⟨r, off, ver, sz, full, rfl, hl⟩ := h
  refine ⟨r, off, ver, sz, full, rfl, fun i hi => ?_⟩
  obtain ⟨r', h1, h2, h3⟩ := hl i hi
  exact ⟨r', h1, h2, hE.ld h3⟩
theorem ld_row {r : Nat} (hr : H[r]? = some (.row c v s ro)) : ld H r p v = known c[p]? := by simp [ld, hr]
theorem store_row {P : Program} {u : TypeId} (h : scal P u = true) {r : Nat} {x y : AV} (hx : x.one = true) (hr : H[r]? = some (.row c v s false)) (hp : known c[p]? = some y) :
    storeV P u H (.ptr r p v) x = some (none, H.set r (.row (c.set p x) v (min s p) false)) := by
  rw [store_sc h hx]
  simp [st, hr, hx, hp]
theorem get_set {r : Nat} {o o' : AObj} (hr : H[r]? = some o) : (H.set r o')[r]? = some o' := by
  have := (List.getElem?_eq_some_iff.1 hr).1
  simp [this]
theorem Ls.row {r : Nat} {l : List Int} (hr : H[r]? = some (.row (l.map (.int .i64)) v s ro)) (f : Bool) : Ls H (.slice (some r) 0 l.length v 1 f) l :=
  ⟨some r, 0, v, 1, f, rfl, fun i hi => ⟨r, rfl, rfl, by rw [ld_row hr]; simp [hi]⟩⟩

/-- A part of a slice. -/
theorem slice_sl {P : Program} {t : TypeId} {n : Nat} (h : slSz P t = some n) (r : Option Nat) (off len ver : Nat) (full : Bool) (lo hi : Option AV) : aSlice P t (.slice r off len ver n full) lo hi none =
    (aBounds len lo hi none).map fun (l, h, _) => .slice r (off + l * n) (h - l) ver n (full && h == len) := by
  unfold slSz at h
  unfold aSlice
  split at h
  · rename_i e he
    rw [he]
    cases hi : P.info? e with
    | none => rw [hi] at h; cases h
    | some ie => rw [hi] at h; simp at h; simp [h, hi]
  · cases h
theorem Ls.sub {u : AV} {l : List Int} (h : Ls H u l) : ∃ r off ver sz full, u = .slice r off l.length ver sz full ∧ (l ≠ [] → sz = 1) ∧ ∀ a b full', a ≤ b → b ≤ l.length → Ls H (.slice r (off + a) (b - a) ver sz full') ((l.drop a).take (b - a)) := by
  obtain ⟨r, off, ver, sz, full, rfl, hl⟩ := h
  refine ⟨r, off, ver, sz, full, rfl, fun hne => ?_, fun a b full' hab hb => ⟨r, off + a, ver, sz, full', by simp; omega, fun i hi => ?_⟩⟩
  · obtain ⟨r', -, h2, -⟩ := hl 0 (by cases l <;> simp_all)
    exact h2
  · simp at hi
    obtain ⟨r', h1, h2, h3⟩ := hl (a + i) (by omega)
    refine ⟨r', h1, h2, ?_⟩
    rw [Nat.add_assoc, h3]
    simp
end
end Go.Proofs.Ytbimapbcpmeooaa.AX
