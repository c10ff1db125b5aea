/- A plain reading of runs: statements whose order is open. -/
import Derived.Test.YtjfmiohgkcjdnaaAxI
namespace Go.Proofs.Ytjfmiohgkcjdnaa.AX
open Go Go.RowKit

/-! ### Which operations come before which -/
def mkMask (acc : List Nat) (es : List Edge) (s : Nat) : Nat :=
  match es with
  | [] => s
  | e :: es => mkMask acc es (if Region.binds .any e then s ||| 2 ^ e.on ||| (acc[e.on]?).getD 0 else s)

def masks : List Oper → List Nat → List Nat
  | [], acc => acc
  | o :: rest, acc => masks rest (acc ++ [mkMask acc o.after.toList 0])

theorem mkMask_bit {acc : List Nat} {j : Nat} : ∀ {es : List Edge} {s : Nat}, (mkMask acc es s).testBit j = true → s.testBit j = true ∨ ∃ e ∈ es, Region.binds .any e = true ∧ (j = e.on ∨ ∃ m, acc[e.on]? = some m ∧ m.testBit j = true)
  | [], s, h => .inl h
  | e :: es, s, h => by
    simp only [mkMask] at h
    rcases mkMask_bit (es := es) h with h1 | ⟨e', he, hb, h2⟩
    · split at h1
      · rename_i hb
        rw [Nat.testBit_or, Nat.testBit_or, Bool.or_eq_true, Bool.or_eq_true] at h1
        rcases h1 with (h1 | h1) | h1
        · exact .inl h1
        · rw [Nat.testBit_two_pow] at h1
          exact .inr ⟨e, by simp, hb, .inl (by simp at h1; exact h1.symm)⟩
        · cases ha : acc[e.on]? with
          | none => rw [ha] at h1; simp at h1
          | some m => rw [ha] at h1; exact .inr ⟨e, by simp, hb, .inr ⟨m, ha, h1⟩⟩
      · exact .inl h1
    · exact .inr ⟨e', by simp [he], hb, h2⟩

/-- A set of operations that holds with each what comes before it. -/
def Closed (ops : Array Oper) (D : Nat → Bool) : Prop := ∀ i o, ops[i]? = some o → D i = true → ∀ e ∈ o.after, Region.binds .any e = true → D e.on = true

theorem masks_closed {ops : Array Oper} {D : Nat → Bool} (hD : Closed ops D) : ∀ (rest : List Oper) (acc : List Nat), (∀ j, rest[j]? = ops[acc.length + j]?) →
    (∀ (i m j : Nat), acc[i]? = some m → m.testBit j = true → D i = true → D j = true) → ∀ (i m j : Nat), (masks rest acc)[i]? = some m → m.testBit j = true → D i = true → D j = true
  | [], acc, _, h => h
  | o :: rest, acc, ho, h => by
    refine masks_closed hD rest _ (fun j => ?_) (fun i m j hi hj hd => ?_)
    · have := ho (j + 1)
      simp only [List.getElem?_cons_succ] at this
      rw [this]; simp [Nat.add_assoc, Nat.add_comm 1 j]
    · rcases Nat.lt_or_ge i acc.length with hlt | hge
      · rw [List.getElem?_append_left hlt] at hi
        exact h i m j hi hj hd
      · rw [List.getElem?_append_right hge] at hi
        have hi0 : i = acc.length := by
          rcases Nat.lt_or_ge (i - acc.length) 1 with h1 | h1
          · omega
          · rw [List.getElem?_eq_none (by simpa using h1)] at hi; cases hi
        subst hi0
        simp only [Nat.sub_self, List.getElem?_cons_zero, Option.some.injEq] at hi
        subst hi
        have hop : ops[acc.length]? = some o := by have := ho 0; simpa using this.symm
        rcases mkMask_bit hj with h1 | ⟨e, he, hb, h2⟩
        · simp at h1
        · have hde := hD _ _ hop hd e (by simpa using he) hb
          rcases h2 with h2 | ⟨m', h2, h3⟩
          · subst h2; exact hde
          · exact h e.on m' j h2 h3 hde

def anc (ms : List Nat) (i j : Nat) : Bool := ((ms[i]?).getD 0).testBit j

theorem anc_closed {ops : Array Oper} {D : Nat → Bool} (hD : Closed ops D) {i j : Nat} (h : anc (masks ops.toList []) i j = true) (hi : D i = true) : D j = true := by
  unfold anc at h
  cases hm : (masks ops.toList [])[i]? with
  | none => rw [hm] at h; simp at h
  | some m =>
    rw [hm] at h
    exact masks_closed hD ops.toList [] (by simp) (by simp) i m j hm h hi

/-! ### The kinds of operations -/
def isW : Op → Bool
  | .store .. | .alloc _ | .box .. | .buildSlice .. | .makeSlice .. | .makeMap .. | .mapUpdate .. => true
  | .call { callee := .builtin .len, .. } | .call { callee := .builtin .min, .. } | .call { callee := .builtin .max, .. } => false
  | .call _ => true
  | _ => false

def isR : Op → Bool
  | .load .. | .slice .. | .lookup .. => true
  | _ => false

def opNames (ops : Array Oper) (o : Oper) : List Nat :=
  o.dst.toList ++ (o.op.operands.toList.filterMap fun | .tmp t => some t | _ => none) ++ (match o.guard with | some (j, _) => (((ops[j]?).bind (·.dst)).toList) | none => [])

/-- Each edge goes back; two operations of which one writes what the other names, and two that write memory, are in order. -/
def ordOK (ops : Array Oper) : Bool :=
  let ms := masks ops.toList []
  ops.toList.zipIdx.all fun (o, i) =>
    (o.after.toList.all fun e => !Region.binds .any e || decide (e.on < i)) &&
    ops.toList.zipIdx.all fun (p, j) => i == j || anc ms i j || anc ms j i ||
      (!(isW o.op && isW p.op) && (match p.dst with | some t => !(opNames ops o).contains t | none => true) && !(match o.op, p.op with | .select .., _ => true | _, _ => false))

/-- One operation as it went: the environment, the rows, what it gave, the rows behind it. -/
structure Rec where
  e : Env
  H : AH
  v : Option AV
  H' : AH

inductive Trace (P : Program) (nt : Nat) (ops : Array Oper) : List Oper → Env → AH → List Rec → Env → AH → Prop
  | nil (e : Env) (H : AH) : Trace P nt ops [] e H [] e H
  | op {o : Oper} {rest : List Oper} {e e' : Env} {H H1 H' : AH} {v : Option AV} {tr : List Rec} : wantedA ops e o = some true → execN P (oval e) H o.op = some (v, H1) → dstOk nt o.dst = true →
      Trace P nt ops rest (putDst e o.dst v) H1 tr e' H' → Trace P nt ops (o :: rest) e H (⟨e, H, v, H1⟩ :: tr) e' H'
  | skip {o : Oper} {rest : List Oper} {e e' : Env} {H H' : AH} {tr : List Rec} : wantedA ops e o = some false →
      Trace P nt ops rest (putDst e o.dst none) H tr e' H' → Trace P nt ops (o :: rest) e H (⟨e, H, none, H⟩ :: tr) e' H'
  | call {o : Oper} {rest : List Oper} {e e' : Env} {H H1 H' : AH} {v : AV} {f : FuncId} {args : List AV} {tr : List Rec} : wantedA ops e o = some true → opCall P (oval e) o.op = some (f, args) → dstOk nt o.dst = true →
      AC P f args H (fun v' H2 => v' = v ∧ H2 = H1) → Trace P nt ops rest (putDst e o.dst (some v)) H1 tr e' H' → Trace P nt ops (o :: rest) e H (⟨e, H, some v, H1⟩ :: tr) e' H'

/-- What one operation did. -/
def Did (P : Program) (nt : Nat) (ops : Array Oper) (o : Oper) (r : Rec) : Prop :=
  (wantedA ops r.e o = some false ∧ r.v = none ∧ r.H' = r.H) ∨
  (dstOk nt o.dst = true ∧ wantedA ops r.e o = some true ∧ (execN P (oval r.e) r.H o.op = some (r.v, r.H') ∨
    ∃ f args v, opCall P (oval r.e) o.op = some (f, args) ∧ r.v = some v ∧ AC P f args r.H (fun v' H2 => v' = v ∧ H2 = r.H')))

def foldD : List Oper → List Rec → (Nat → Bool) → Nat → Env → Env
  | o :: l, r :: tr, D, k, e => foldD l tr D (k + 1) (if D k then putDst e o.dst r.v else e)
  | _, _, _, _, e => e

section
variable {P : Program} {nt : Nat} {ops : Array Oper}

theorem eget_putDst (e : Env) (d : Option Tmp) (v : Option AV) (t : Nat) : eget (putDst e d v) t = if d = some t then v.getD .undef else eget e t := by
  cases d with
  | none => simp [putDst]
  | some s =>
    cases v with
    | none => simp [putDst, eget_edel]
    | some v => simp [putDst, eget_eset]

theorem foldD_agree : ∀ (l : List Oper) (tr : List Rec) (D D' : Nat → Bool) (k : Nat) (e e' : Env) (t : Nat), (∀ j o, l[j]? = some o → o.dst = some t → D (k + j) = D' (k + j)) → eget e t = eget e' t →
    eget (foldD l tr D k e) t = eget (foldD l tr D' k e') t
  | [], _, _, _, _, _, _, _, _, h => by simpa [foldD] using h
  | _ :: _, [], _, _, _, _, _, _, _, h => by simpa [foldD] using h
  | o :: l, r :: tr, D, D', k, e, e', t, hD, h => by
    simp only [foldD]
    refine foldD_agree l tr D D' (k + 1) _ _ t (fun j o' hj ho => ?_) ?_
    · have := hD (j + 1) o' (by simpa using hj) ho
      rwa [show k + 1 + j = k + (j + 1) by omega]
    · by_cases ht : o.dst = some t
      · have := hD 0 o (by simp) ht
        simp only [Nat.add_zero] at this
        rw [this]
        split
        · rw [eget_putDst, eget_putDst, if_pos ht, if_pos ht]
        · exact h
      · split <;> split <;> simp [eget_putDst, ht, h]

theorem foldD_none : ∀ (l : List Oper) (tr : List Rec) (D : Nat → Bool) (k : Nat) (e : Env), (∀ j, D (k + j) = false) → foldD l tr D k e = e
  | [], _, _, _, _, _ => by simp [foldD]
  | _ :: _, [], _, _, _, _ => by simp [foldD]
  | o :: l, r :: tr, D, k, e, h => by
    have h0 := h 0
    simp only [Nat.add_zero] at h0
    simp only [foldD, h0]
    exact foldD_none l tr D (k + 1) e (fun j => by have := h (j + 1); rwa [show k + 1 + j = k + (j + 1) by omega])

theorem Trace.length {l : List Oper} {e e' : Env} {H H' : AH} {tr : List Rec} (h : Trace P nt ops l e H tr e' H') : tr.length = l.length := by
  induction h <;> simp_all

theorem Trace.did {l : List Oper} {e e' : Env} {H H' : AH} {tr : List Rec} (h : Trace P nt ops l e H tr e' H') : ∀ (i : Nat) (o : Oper) (r : Rec), l[i]? = some o → tr[i]? = some r → Did P nt ops o r := by
  induction h with
  | nil => intro i o r h; simp at h
  | op h1 h2 h3 _ ih => intro i o r ho hr; cases i with
    | zero => simp at ho hr; subst ho; subst hr; exact .inr ⟨h3, h1, .inl h2⟩
    | succ i => exact ih i o r (by simpa using ho) (by simpa using hr)
  | skip h1 _ ih => intro i o r ho hr; cases i with
    | zero => simp at ho hr; subst ho; subst hr; exact .inl ⟨h1, rfl, rfl⟩
    | succ i => exact ih i o r (by simpa using ho) (by simpa using hr)
  | call h1 h2 h3 h4 _ ih => intro i o r ho hr; cases i with
    | zero => simp at ho hr; subst ho; subst hr; exact .inr ⟨h3, h1, .inr ⟨_, _, _, h2, rfl, h4⟩⟩
    | succ i => exact ih i o r (by simpa using ho) (by simpa using hr)

/-- The environments and the rows on the way. -/
theorem Trace.envs {l : List Oper} {e e' : Env} {H H' : AH} {tr : List Rec} (h : Trace P nt ops l e H tr e' H') : ∀ (k i : Nat) (r : Rec), tr[i]? = some r → r.e = foldD l tr (fun j => decide (j < k + i)) k e := by
  induction h with
  | nil => intro k i r h; simp at h
  | op h1 h2 h3 _ ih => intro k i r hr; cases i with
    | zero => simp at hr; subst hr; rw [foldD_none _ _ _ _ _ (by simp)]
    | succ i =>
      have := ih (k + 1) i r (by simpa using hr)
      simp only [foldD]
      rw [this, show k + 1 + i = k + (i + 1) by omega]
      simp
  | skip h1 _ ih => intro k i r hr; cases i with
    | zero => simp at hr; subst hr; rw [foldD_none _ _ _ _ _ (by simp)]
    | succ i =>
      have := ih (k + 1) i r (by simpa using hr)
      simp only [foldD]
      rw [this, show k + 1 + i = k + (i + 1) by omega]
      simp
  | call h1 h2 h3 h4 _ ih => intro k i r hr; cases i with
    | zero => simp at hr; subst hr; rw [foldD_none _ _ _ _ _ (by simp)]
    | succ i =>
      have := ih (k + 1) i r (by simpa using hr)
      simp only [foldD]
      rw [this, show k + 1 + i = k + (i + 1) by omega]
      simp

theorem Trace.last {l : List Oper} {e e' : Env} {H H' : AH} {tr : List Rec} (h : Trace P nt ops l e H tr e' H') : ∀ (k : Nat) (D : Nat → Bool), (∀ j, D j = true) → e' = foldD l tr D k e := by
  induction h with
  | nil => intro k D _; simp [foldD]
  | op h1 h2 h3 _ ih => intro k D hD; simp only [foldD, hD, if_true]; exact ih (k + 1) D hD
  | skip h1 _ ih => intro k D hD; simp only [foldD, hD, if_true]; exact ih (k + 1) D hD
  | call h1 h2 h3 h4 _ ih => intro k D hD; simp only [foldD, hD, if_true]; exact ih (k + 1) D hD

/-- The rows ahead of operation m. -/
def rowsAt (tr : List Rec) (H' : AH) (m : Nat) : AH := match tr[m]? with | some r => r.H | none => H'

theorem Trace.next {l : List Oper} {e e' : Env} {H H' : AH} {tr : List Rec} (h : Trace P nt ops l e H tr e' H') : ∀ (i : Nat) (r : Rec), tr[i]? = some r → rowsAt tr H' (i + 1) = r.H' := by
  have first : ∀ {l : List Oper} {e e' : Env} {H H' : AH} {tr : List Rec}, Trace P nt ops l e H tr e' H' → rowsAt tr H' 0 = H := by
    intro l e e' H H' tr h
    cases h <;> simp [rowsAt]
  induction h with
  | nil => intro i r h; simp at h
  | op h1 h2 h3 ht ih => intro i r hr; cases i with
    | zero => simp at hr; subst hr; have := first ht; simpa [rowsAt] using this
    | succ i => have := ih i r (by simpa using hr); simpa [rowsAt] using this
  | skip h1 ht ih => intro i r hr; cases i with
    | zero => simp at hr; subst hr; have := first ht; simpa [rowsAt] using this
    | succ i => have := ih i r (by simpa using hr); simpa [rowsAt] using this
  | call h1 h2 h3 h4 ht ih => intro i r hr; cases i with
    | zero => simp at hr; subst hr; have := first ht; simpa [rowsAt] using this
    | succ i => have := ih i r (by simpa using hr); simpa [rowsAt] using this

theorem Trace.first {l : List Oper} {e e' : Env} {H H' : AH} {tr : List Rec} (h : Trace P nt ops l e H tr e' H') : rowsAt tr H' 0 = H := by
  cases h <;> simp [rowsAt]

/-- What is read is the same ahead of and behind each operation that writes memory and stands in no order to the reading. -/
def readsOK (P : Program) (ops : Array Oper) (tr : List Rec) : Prop :=
  ∀ (i j : Nat) (o p : Oper) (r s : Rec), ops[i]? = some o → ops[j]? = some p → tr[i]? = some r → tr[j]? = some s → isR o.op = true → isW p.op = true → wantedA ops r.e o = some true →
    anc (masks ops.toList []) i j = false → anc (masks ops.toList []) j i = false → execN P (oval r.e) s.H o.op = some (r.v, s.H) ∧ execN P (oval r.e) s.H' o.op = some (r.v, s.H')

theorem execN_congr {ρ ρ' : Operand → AV} {H : AH} {o : Op} (h : ∀ x ∈ o.operands, ρ x = ρ' x) : execN P ρ H o = execN P ρ' H o := by
  have hp : ∀ (l : List (Nat × Operand)), (∀ y ∈ l, ρ y.2 = ρ' y.2) → (l.map fun x => (x.1, ρ x.2)) = l.map fun x => (x.1, ρ' x.2) := fun l hl => List.map_congr_left fun y hy => by rw [hl y hy]
  cases o
  case call c =>
    obtain ⟨callee, as, ts⟩ := c
    cases callee
    case builtin b =>
      have hm : as.toList.map ρ = as.toList.map ρ' := List.map_congr_left fun y hy => h y (by simp [Op.operands, Call.operands]; simpa using hy)
      have h0 : ∀ (i : Nat) y, as[i]? = some y → ρ y = ρ' y := fun i y hy => h y (by simp [Op.operands, Call.operands]; exact Array.mem_of_getElem? hy)
      cases b <;> simp only [execN, aPure, aWrite, hm]
      · split
        · rename_i x1 x2 x3 x4 e1 e2 e3 e4
          rw [h0 _ _ e3, h0 _ _ e4]
        · rfl
      · split
        · rename_i x1 x2 e1 e2
          rw [h0 _ _ e2]
        · rfl
      · split
        · rename_i x1 x2 x3 e1 e2 e3
          rw [h0 _ _ e2, h0 _ _ e3]
        · rfl
      · split
        · rename_i x1 x2 e1 e2
          rw [h0 _ _ e2]
        · rfl
    all_goals rfl
  case build t ps =>
    simp only [execN, aPure]
    rw [hp ps.toList fun y hy => h y.2 (by simp [Op.operands]; exact ⟨y.1, by simpa using hy⟩)]
  case buildSlice t n ps =>
    simp only [execN, aWrite]
    rw [hp ps.toList fun y hy => h y.2 (by simp [Op.operands]; exact ⟨y.1, by simpa using hy⟩)]
  case makeFunc fn a b =>
    simp only [execN, aPure]
    rw [show a.toList.map ρ = a.toList.map ρ' from List.map_congr_left fun y hy => h y (by simp [Op.operands]; left; simpa using hy),
      show b.toList.map ρ = b.toList.map ρ' from List.map_congr_left fun y hy => h y (by simp [Op.operands]; right; simpa using hy)]
  case slice t x lo hi mx =>
    have hx := h x (by simp [Op.operands])
    have h1 : lo.map ρ = lo.map ρ' := by cases lo <;> simp; exact h _ (by simp [Op.operands])
    have h2 : hi.map ρ = hi.map ρ' := by cases hi <;> simp; exact h _ (by simp [Op.operands])
    have h3 : mx.map ρ = mx.map ρ' := by cases mx <;> simp; exact h _ (by simp [Op.operands])
    simp only [execN, aPure, aRead, hx, h1, h2, h3]
  case makeMap t r =>
    have h1 : r.map ρ = r.map ρ' := by cases r <;> simp; exact h _ (by simp [Op.operands])
    simp only [execN, h1]
  all_goals
    simp only [execN, aPure, aRead, aWrite]
    try (simp only [Op.operands, Array.mem_def, List.mem_cons, List.not_mem_nil, or_false, forall_eq_or_imp, forall_eq] at h)
    try simp only [h]

theorem opCall_congr {ρ ρ' : Operand → AV} {o : Op} (h : ∀ x ∈ o.operands, ρ x = ρ' x) : opCall P ρ o = opCall P ρ' o := by
  cases o
  case call c =>
    obtain ⟨callee, as, ts⟩ := c
    cases callee
    case value g =>
      have hm : as.toList.map ρ = as.toList.map ρ' := List.map_congr_left fun y hy => h y (by simp [Op.operands, Call.operands]; right; simpa using hy)
      simp only [opCall, hm, h g (by simp [Op.operands, Call.operands])]
    case invoke r n =>
      have hm : as.toList.map ρ = as.toList.map ρ' := List.map_congr_left fun y hy => h y (by simp [Op.operands, Call.operands]; right; simpa using hy)
      simp only [opCall, hm, h r (by simp [Op.operands, Call.operands])]
    all_goals rfl
  all_goals rfl

theorem execN_same {ρ : Operand → AV} {H H1 : AH} {o : Op} {v : Option AV} (hw : isW o = false) (h : execN P ρ H o = some (v, H1)) : H1 = H := by
  unfold execN at h
  split at h
  case h_9 => obtain ⟨u, _, h1⟩ := Option.map_eq_some_iff.1 h; cases h1; rfl
  case h_10 =>
    split at h
    · cases h; rfl
    · obtain ⟨u, _, h1⟩ := Option.map_eq_some_iff.1 h; cases h1; rfl
  case h_11 => obtain ⟨u, _, h1⟩ := Option.map_eq_some_iff.1 h; cases h1; rfl
  case h_14 => obtain ⟨u, _, h1⟩ := Option.map_eq_some_iff.1 h; cases h1; rfl
  all_goals simp [isW] at hw

theorem execN_pure {ρ : Operand → AV} {H H1 : AH} {o : Op} {v : Option AV} (hw : isW o = false) (hr : isR o = false) (h : execN P ρ H o = some (v, H1)) (H2 : AH) : execN P ρ H2 o = some (v, H2) := by
  unfold execN at h ⊢
  split at h
  case h_9 => simp [isR] at hr
  case h_10 => simp [isR] at hr
  case h_11 => simp [isR] at hr
  case h_14 => obtain ⟨u, h2, h1⟩ := Option.map_eq_some_iff.1 h; cases h1; simp [h2]
  all_goals simp [isW] at hw

theorem opCall_isW {ρ : Operand → AV} {o : Op} {f : FuncId} {args : List AV} (h : opCall P ρ o = some (f, args)) : isW o = true := by
  unfold opCall at h
  split at h <;> first | (cases h; done) | rfl

theorem Did.same {o : Oper} {r : Rec} (h : Did P nt ops o r) (hw : isW o.op = false) : r.H' = r.H := by
  rcases h with ⟨_, _, h⟩ | ⟨_, _, h | ⟨f, args, v, h, _⟩⟩
  · exact h
  · exact execN_same hw h
  · rw [opCall_isW h] at hw; cases hw

theorem oval_agree {e e' : Env} {o : Oper} (h : ∀ t ∈ opNames ops o, eget e t = eget e' t) : ∀ x ∈ o.op.operands, oval e x = oval e' x := by
  intro x hx
  cases x with
  | tmp t => exact h t (by unfold opNames; simp; right; left; exact ⟨.tmp t, hx, rfl⟩)
  | _ => rfl

theorem wantedA_agree {e e' : Env} {o : Oper} (h : ∀ t ∈ opNames ops o, eget e t = eget e' t) : wantedA ops e o = wantedA ops e' o := by
  unfold wantedA
  cases hg : o.guard with
  | none => rfl
  | some g =>
    obtain ⟨j, want⟩ := g
    simp only []
    cases hd : (ops[j]?).bind (·.dst) with
    | none => rfl
    | some t => simp only []; rw [h t (by unfold opNames; simp [hg, hd])]
end
end Go.Proofs.Ytjfmiohgkcjdnaa.AX
