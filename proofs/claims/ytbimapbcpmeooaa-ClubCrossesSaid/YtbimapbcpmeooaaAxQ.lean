/- A plain reading of runs (Q). -/
import Derived.Test.YtbimapbcpmeooaaAxP
/- A plain reading of runs: operations made ready before they are run. -/
namespace Go.Proofs.Ytbimapbcpmeooaa.AX
open Go Go.RowKit

noncomputable def qnth {α : Type} (l : List α) : Nat → Option α := List.rec (fun _ => none) (fun a _ ih n => Nat.rec (some a) (fun m _ => ih m) n) l
theorem qnth_eq {α : Type} : ∀ (l : List α) (n : Nat), qnth l n = l[n]?
  | [], n => by simp [qnth]
  | a :: l, 0 => rfl
  | a :: l, n + 1 => (qnth_eq l n).trans (by simp)
noncomputable def qset {α : Type} (l : List α) (v : α) : Nat → List α := List.rec (fun _ => []) (fun a t ih n => Nat.rec (v :: t) (fun m _ => a :: ih m) n) l
theorem qset_eq {α : Type} (v : α) : ∀ (l : List α) (n : Nat), qset l v n = l.set n v
  | [], _n => rfl
  | _a :: _l, 0 => rfl
  | a :: l, n + 1 => congrArg (a :: ·) (qset_eq v l n)
/-- The same, written out before it is used. -/
noncomputable def qsetK {α β : Type} (l : List α) (v : α) : Nat → (List α → β) → β := List.rec (fun _ k => k []) (fun a t ih n k => Nat.rec (k (v :: t)) (fun m _ => ih m fun t' => k (a :: t')) n) l
theorem qsetK_eq {α β : Type} (v : α) : ∀ (l : List α) (n : Nat) (k : List α → β), qsetK l v n k = k (qset l v n)
  | [], _n, _k => rfl
  | _a :: _l, 0, _k => rfl
  | a :: l, n + 1, k => qsetK_eq v l n fun t' => k (a :: t')
noncomputable def qe (e : Env) (t : Nat) : AV := List.rec .undef (fun p _ ih => bif Nat.beq p.1 t then p.2 else ih) e
theorem qe_eq : ∀ (e : Env) (t : Nat), qe e t = eget e t
  | [], t => rfl
  | (k, v) :: e, t => by
    have ih := qe_eq e t
    show (bif Nat.beq k t then v else qe e t) = _
    rw [ih]
    simp only [eget]
    cases h : Nat.beq k t with
    | true => rw [if_pos (Nat.eq_of_beq_eq_true h)]; rfl
    | false => rw [if_neg (Nat.ne_of_beq_eq_false h)]; rfl

noncomputable def ilt (a b : Int) : Bool := Int.rec (fun m => Int.rec (fun n => Nat.ble (Nat.succ m) n) (fun _ => false) b) (fun m => Int.rec (fun _ => true) (fun n => Nat.ble (Nat.succ n) m) b) a
theorem ilt_eq (a b : Int) : ilt a b = decide (a < b) := by
  cases a <;> cases b
  · rename_i m n
    show Nat.ble (m + 1) n = _
    rw [Bool.eq_iff_iff, Nat.ble_eq, decide_eq_true_eq]
    exact ⟨fun h => Int.ofNat_lt.2 h, fun h => Int.ofNat_lt.1 h⟩
  · rename_i m n; show false = _; symm; rw [decide_eq_false_iff_not]; intro h; simp only [Int.ofNat_eq_natCast] at h; omega
  · rename_i m n; show true = _; symm; rw [decide_eq_true_eq]; simp only [Int.ofNat_eq_natCast]; omega
  · rename_i m n
    show Nat.ble (n + 1) m = _
    rw [Bool.eq_iff_iff, Nat.ble_eq, decide_eq_true_eq]
    omega
noncomputable def ieq (a b : Int) : Bool := Int.rec (fun m => Int.rec (fun n => Nat.beq m n) (fun _ => false) b) (fun m => Int.rec (fun _ => false) (fun n => Nat.beq n m) b) a
theorem ieq_eq (a b : Int) : ieq a b = (a == b) := by
  cases a <;> cases b
  · rename_i m n
    show Nat.beq m n = _
    rw [Bool.eq_iff_iff, Nat.beq_eq, beq_iff_eq]
    exact ⟨fun h => by rw [h], fun h => by injection h⟩
  · rename_i m n; show false = _; symm; rw [beq_eq_false_iff_ne]; intro h; cases h
  · rename_i m n; show false = _; symm; rw [beq_eq_false_iff_ne]; intro h; cases h
  · rename_i m n
    show Nat.beq n m = _
    rw [Bool.eq_iff_iff, Nat.beq_eq, beq_iff_eq]
    exact ⟨fun h => by rw [h], fun h => by injection h with h; exact h.symm⟩

noncomputable def wrap64 (n : Int) : Int := Int.rec (fun m => bif Nat.ble m 9223372036854775807 then .ofNat m else IntKind.i64.wrap (.ofNat m)) (fun m => bif Nat.ble m 9223372036854775807 then .negSucc m else IntKind.i64.wrap (.negSucc m)) n
theorem wrap64_eq (n : Int) : wrap64 n = IntKind.i64.wrap n := by
  have key : ∀ n : Int, -9223372036854775808 ≤ n → n ≤ 9223372036854775807 → IntKind.i64.wrap n = n := by
    intro n h1 h2
    have e1 : (2 : Int) ^ (IntKind.i64.bits) = 18446744073709551616 := by decide
    have e2 : (2 : Int) ^ (IntKind.i64.bits - 1) = 9223372036854775808 := by decide
    have e3 : IntKind.i64.signed = true := rfl
    simp only [IntKind.wrap, e1, e2, e3, Bool.true_and, decide_eq_true_eq]
    split <;> omega
  cases n with
  | ofNat m =>
    show (bif Nat.ble m 9223372036854775807 then Int.ofNat m else _) = _
    cases h : Nat.ble m 9223372036854775807 with
    | true => have := Nat.le_of_ble_eq_true h; rw [key _ (by simp only [Int.ofNat_eq_natCast]; omega) (by simp only [Int.ofNat_eq_natCast]; omega)]; rfl
    | false => rfl
  | negSucc m =>
    show (bif Nat.ble m 9223372036854775807 then Int.negSucc m else _) = _
    cases h : Nat.ble m 9223372036854775807 with
    | true => have := Nat.le_of_ble_eq_true h; rw [key _ (by omega) (by omega)]; rfl
    | false => rw [cond_false]
noncomputable def qwrap (k : IntKind) (n : Int) : Int := match k with
  | .i64 => wrap64 n
  | k => k.wrap n
theorem qwrap_eq (k : IntKind) (n : Int) : qwrap k n = k.wrap n := by
  cases k with
  | i64 => simp only [qwrap, wrap64_eq]
  | i8 => rfl
  | i16 => rfl
  | i32 => rfl
  | u8 => rfl
  | u16 => rfl
  | u32 => rfl
  | u64 => rfl

inductive QA where
  | t (n : Nat)
  | v (a : AV)
def qa : Operand → QA
  | .tmp t => .t t
  | .const v => .v (absV 3 v)
  | .global g => .v (.gptr g 0)
  | .func f => .v (.func (.func f) [] [])
noncomputable def qget (e : Env) (x : QA) : AV := match x with
  | .t n => qe e n
  | .v a => a
theorem qget_eq (e : Env) (x : Operand) : qget e (qa x) = oval e x := by
  cases x with
  | tmp t => exact qe_eq e t
  | _ => rfl

abbrev BinG := IntKind → Int → Int → Option AV
noncomputable def gAdd : BinG := fun k a b => some (.int k (qwrap k (Int.add a b)))
noncomputable def gSub : BinG := fun k a b => some (.int k (qwrap k (Int.sub a b)))
noncomputable def gMul : BinG := fun k a b => some (.int k (qwrap k (Int.mul a b)))
noncomputable def gLss : BinG := fun _ a b => some (.bool (ilt a b))
noncomputable def gLeq : BinG := fun _ a b => some (.bool (!ilt b a))
noncomputable def gGtr : BinG := fun _ a b => some (.bool (ilt b a))
noncomputable def gGeq : BinG := fun _ a b => some (.bool (!ilt a b))
noncomputable def gEql : BinG := fun _ a b => some (.bool (ieq a b))
noncomputable def gNeq : BinG := fun _ a b => some (.bool (!ieq a b))
def GOk (g : BinG) (op : BinOp) : Prop := ∀ k a b v, g k a b = some v → aBin op (.int k a) (.int k b) = some v
theorem gAdd_ok : GOk gAdd .add := fun k a b v h => by
  simp only [gAdd, qwrap_eq] at h; cases h; simp [aBin] <;> rfl
theorem gSub_ok : GOk gSub .sub := fun k a b v h => by
  simp only [gSub, qwrap_eq] at h; cases h; simp [aBin] <;> rfl
theorem gMul_ok : GOk gMul .mul := fun k a b v h => by
  simp only [gMul, qwrap_eq] at h; cases h; simp [aBin] <;> rfl
theorem gLss_ok : GOk gLss .lss := fun k a b v h => by
  simp only [gLss, ilt_eq] at h; cases h; simp [aBin]
theorem not_lt_dec (a b : Int) : (!decide (a < b)) = decide (b ≤ a) := by
  rw [Bool.eq_iff_iff]; simp
theorem gLeq_ok : GOk gLeq .leq := fun k a b v h => by
  simp only [gLeq, ilt_eq, not_lt_dec] at h; cases h; simp [aBin]
theorem gGtr_ok : GOk gGtr .gtr := fun k a b v h => by
  simp only [gGtr, ilt_eq] at h; cases h; simp [aBin]
theorem gGeq_ok : GOk gGeq .geq := fun k a b v h => by
  simp only [gGeq, ilt_eq, not_lt_dec] at h; cases h; simp [aBin]
theorem gEql_ok : GOk gEql .eql := fun k a b v h => by
  simp only [gEql, ieq_eq] at h; cases h; simp [aBin]
theorem gNeq_ok : GOk gNeq .neq := fun k a b v h => by
  simp only [gNeq, ieq_eq] at h; cases h; simp [aBin, bne]

inductive QO where
  | mv (x : QA)
  | bin (g : BinG) (x y : QA) (o : Op)
  | ld (x : QA) (o : Op)
  | st (x y : QA) (o : Op)
  | ixs (z : Nat) (x i : QA) (o : Op)
  | ixa (n z : Nat) (x i : QA) (o : Op)
  | len (x : QA) (o : Op)
  | ext (i : Nat) (x : QA)
  | call (f : Nat) (as : List QA)
  | vcall (o : Op)
  | slow (o : Op)

noncomputable def qo (P : Program) (o : Op) : QO :=
  match o with
  | .move x => .mv (qa x)
  | .assign x => .mv (qa x)
  | .binOp op _ x y _ => match op with
    | .add => .bin gAdd (qa x) (qa y) o
    | .sub => .bin gSub (qa x) (qa y) o
    | .mul => .bin gMul (qa x) (qa y) o
    | .lss => .bin gLss (qa x) (qa y) o
    | .leq => .bin gLeq (qa x) (qa y) o
    | .gtr => .bin gGtr (qa x) (qa y) o
    | .geq => .bin gGeq (qa x) (qa y) o
    | .eql => .bin gEql (qa x) (qa y) o
    | .neq => .bin gNeq (qa x) (qa y) o
    | _ => .slow o
  | .load t x => match P.underlying t, P.info? t with
    | some d, some i => bif !isAggD d && Nat.beq i.size 1 then .ld (qa x) o else .slow o
    | _, _ => .slow o
  | .store t x y => match P.info? t with
    | some i => bif Nat.beq i.size 1 then .st (qa x) (qa y) o else .slow o
    | none => .slow o
  | .indexAddr t x i => match P.underlying t with
    | some (.slice e) => match P.info? e with
      | some ie => .ixs ie.size (qa x) (qa i) o
      | none => .slow o
    | some (.array n e) => match P.info? e with
      | some ie => .ixa n ie.size (qa x) (qa i) o
      | none => .slow o
    | _ => .slow o
  | .extract x i => .ext i (qa x)
  | .call c => match c.callee with
    | .value g => match g with
      | .func f => bif okFn P f then .call f (c.args.toList.map qa) else .vcall o
      | _ => .vcall o
    | .invoke _ _ => .vcall o
    | .builtin b => match b with
      | .len => match c.args.toList, c.argTypes.toList with
        | [x], [t] => match P.underlying t with
          | some (.slice _) => .len (qa x) o
          | _ => .slow o
        | _, _ => .slow o
      | _ => .slow o
  | _ => .slow o

noncomputable def onInt {α : Type} (v : AV) (no : α) (k : IntKind → Int → α) : α :=
  @AV.rec (fun _ => α) (fun _ => Unit) no (fun _ => no) (fun t n => k t n) (fun _ => no) no (fun _ _ _ => no) (fun _ _ _ _ _ _ => no) no (fun _ => no) no (fun _ _ _ _ _ => no) no (fun _ _ _ => no) (fun _ _ => no) (fun _ _ => no) (fun _ _ => no) (fun _ _ _ _ _ => no) (fun _ => no) (fun _ _ _ _ _ => no) (fun _ => no) () (fun _ _ _ _ => ()) v
noncomputable def onPtr {α : Type} (v : AV) (no : α) (k : Nat → Nat → Nat → α) : α :=
  @AV.rec (fun _ => α) (fun _ => Unit) no (fun _ => no) (fun _ _ => no) (fun _ => no) no (fun r off ver => k r off ver) (fun _ _ _ _ _ _ => no) no (fun _ => no) no (fun _ _ _ _ _ => no) no (fun _ _ _ => no) (fun _ _ => no) (fun _ _ => no) (fun _ _ => no) (fun _ _ _ _ _ => no) (fun _ => no) (fun _ _ _ _ _ => no) (fun _ => no) () (fun _ _ _ _ => ()) v
noncomputable def onSl {α : Type} (v : AV) (no : α) (k : Nat → Nat → Nat → Nat → Nat → α) : α :=
  @AV.rec (fun _ => α) (fun _ => Unit) no (fun _ => no) (fun _ _ => no) (fun _ => no) no (fun _ _ _ => no) (fun r off len ver sz _ => Option.rec no (fun r => k r off len ver sz) r) no (fun _ => no) no (fun _ _ _ _ _ => no) no (fun _ _ _ => no) (fun _ _ => no) (fun _ _ => no) (fun _ _ => no) (fun _ _ _ _ _ => no) (fun _ => no) (fun _ _ _ _ _ => no) (fun _ => no) () (fun _ _ _ _ => ()) v
noncomputable def onRow {α : Type} (H : AH) (r : Nat) (no : α) (k : List AV → Nat → Nat → Bool → α) : α := match qnth H r with
  | some (.row cells ver stale ro) => k cells ver stale ro
  | _ => no
noncomputable def kindEq (a b : IntKind) : Bool := Nat.beq a.ctorIdx b.ctorIdx
theorem kindEq_eq {a b : IntKind} (h : kindEq a b = true) : a = b := by
  cases a <;> cases b <;> first | rfl | (simp [kindEq, IntKind.ctorIdx] at h)
noncomputable def keepV (x : Option AV) (H : AH) : Option (Option AV × AH) := match x with
  | some v => some (some v, H)
  | none => none
noncomputable def oneB (v : AV) : Bool := match v with
  | .undef => false
  | .agg _ => false
  | .tuple _ => false
  | _ => true

noncomputable def qargs {α : Type} (e : Env) (as : List QA) : (List AV → α) → α := List.rec (fun k => k []) (fun a _ ih k => forceV (qget e a) fun v => ih fun vs => k (v :: vs)) as
theorem qargs_eq {α : Type} (e : Env) : ∀ (as : List Operand) (k : List AV → α), qargs e (as.map qa) k = k (as.map (oval e))
  | [], k => rfl
  | a :: as, k => by
    show forceV (qget e (qa a)) (fun v => qargs e (as.map qa) fun vs => k (v :: vs)) = _
    rw [forceV_eq, qargs_eq e as, qget_eq]; rfl

noncomputable def qBin2 (P : Program) (g : BinG) (k k' : IntKind) (a b : Int) (o : Op) (e : Env) (H : AH) : Option (Option AV × AH) := bif kindEq k k' then keepV (g k a b) H else execN P (oval e) H o
noncomputable def qBin1 (P : Program) (g : BinG) (k : IntKind) (a : Int) (y : QA) (o : Op) (e : Env) (H : AH) : Option (Option AV × AH) := onInt (qget e y) (execN P (oval e) H o) fun k' b => qBin2 P g k k' a b o e H
noncomputable def qBin (P : Program) (g : BinG) (x y : QA) (o : Op) (e : Env) (H : AH) : Option (Option AV × AH) := onInt (qget e x) (execN P (oval e) H o) fun k a => qBin1 P g k a y o e H
noncomputable def qLd1 (H : AH) (off ver : Nat) (cells : List AV) (v stale : Nat) : Option (Option AV × AH) := bif Nat.beq v ver || Nat.ble (Nat.succ off) stale then keepV (known (qnth cells off)) H else none
noncomputable def qLd (P : Program) (x : QA) (o : Op) (e : Env) (H : AH) : Option (Option AV × AH) := onPtr (qget e x) (execN P (oval e) H o) fun r off ver => onRow H r none fun cells v stale _ => qLd1 H off ver cells v stale
noncomputable def qSt2 (H : AH) (r off : Nat) (y : AV) (cells : List AV) (v stale : Nat) (ro : Bool) (u : Option AV) : Option (Option AV × AH) :=
  Option.rec none (fun _ => qsetK cells y off fun cells' => forceN (bif Nat.ble stale off then stale else off) fun st => qsetK H (.row cells' v st ro) r fun H' => some (none, H')) u
noncomputable def qSt1 (H : AH) (r off ver : Nat) (y : AV) (cells : List AV) (v stale : Nat) (ro : Bool) : Option (Option AV × AH) :=
  bif Nat.beq v ver && !ro then qSt2 H r off y cells v stale ro (known (qnth cells off)) else none
noncomputable def qSt (P : Program) (x y : QA) (o : Op) (e : Env) (H : AH) : Option (Option AV × AH) := onPtr (qget e x) (execN P (oval e) H o) fun r off ver => bif oneB (qget e y) then onRow H r none fun cells v stale ro => qSt1 H r off ver (qget e y) cells v stale ro
    else execN P (oval e) H o
noncomputable def qIxs1 (z : Nat) (H : AH) (r off len ver sz : Nat) (n : Int) : Option (Option AV × AH) := bif Nat.beq z sz && !ilt n 0 && ilt n (.ofNat len) then some (some (.ptr r (Nat.add off (Nat.mul n.toNat sz)) ver), H) else none
noncomputable def qIxs (P : Program) (z : Nat) (x i : QA) (o : Op) (e : Env) (H : AH) : Option (Option AV × AH) := onSl (qget e x) (execN P (oval e) H o) fun r off len ver sz => onInt (qget e i) none fun _ n => qIxs1 z H r off len ver sz n
noncomputable def qIxa1 (n z : Nat) (H : AH) (r off ver : Nat) (m : Int) : Option (Option AV × AH) := bif !ilt m 0 && ilt m (.ofNat n) then some (some (.ptr r (Nat.add off (Nat.mul m.toNat z)) ver), H) else none
noncomputable def qIxa (P : Program) (n z : Nat) (x i : QA) (o : Op) (e : Env) (H : AH) : Option (Option AV × AH) := onPtr (qget e x) (execN P (oval e) H o) fun r off ver => onInt (qget e i) none fun _ m => qIxa1 n z H r off ver m
noncomputable def qLen (P : Program) (x : QA) (o : Op) (e : Env) (H : AH) : Option (Option AV × AH) := onSl (qget e x) (execN P (oval e) H o) fun _ _ len _ _ => some (some (.int .i64 (.ofNat len)), H)
noncomputable def qExt (i : Nat) (x : QA) (e : Env) (H : AH) : Option (Option AV × AH) := match qget e x with
    | .tuple vs => keepV (qnth vs i) H
    | _ => none
noncomputable def qRet (r : Option (AV × AH)) : Option (Option AV × AH) := Option.rec none (fun p => some (some p.1, p.2)) r
noncomputable def qCall (call : Caller) (f : Nat) (as : List QA) (e : Env) (H : AH) : Option (Option AV × AH) := qargs e as fun vs => qRet (callN call f vs H)
noncomputable def qVcall (P : Program) (call : Caller) (o : Op) (e : Env) (H : AH) : Option (Option AV × AH) := match opYld (oval e) o with
    | some (r, args) => qRet (call (1000000 + r) args H)
    | none => match opCall P (oval e) o with
      | some (f, args) => qRet (callN call f args H)
      | none => none
/-! Rows written out before they are used. -/
noncomputable def forceL {β : Type} (l : List AV) : (List AV → β) → β := List.rec (fun k => k []) (fun a _ ih k => forceV a fun a => ih fun t => k (a :: t)) l
theorem forceL_eq {β : Type} : ∀ (l : List AV) (k : List AV → β), forceL l k = k l
  | [], k => rfl
  | a :: l, k => by
    show forceV a (fun a => forceL l fun t => k (a :: t)) = _
    rw [forceV_eq, forceL_eq l]
noncomputable def forceO {β : Type} (o : AObj) (k : AObj → β) : β := AObj.rec (fun cells v s ro => forceL cells fun cells => forceN v fun v => forceN s fun s => k (.row cells v s ro)) (fun es => k (.map es)) (fun g c => k (.gvar g c)) (fun s pe L => k (.loop s pe L)) (fun s pos => forceN pos fun pos => k (.iter s pos)) o
theorem forceO_eq {β : Type} (o : AObj) (k : AObj → β) : forceO o k = k o := by
  cases o with
  | row cells v s ro => simp only [forceO, forceL_eq, forceN_eq]
  | map es => rfl
  | gvar g c => rfl
  | loop s pe L => rfl
  | iter s pos => simp only [forceO, forceN_eq]
noncomputable def forceS {β : Type} (l : AH) : (AH → β) → β := List.rec (fun k => k []) (fun o _ ih k => ih fun t => k (o :: t)) l
theorem forceS_eq {β : Type} : ∀ (l : AH) (k : AH → β), forceS l k = k l
  | [], _k => rfl
  | o :: l, k => forceS_eq l fun t => k (o :: t)
noncomputable def forceH {β : Type} (l : AH) : (AH → β) → β := List.rec (fun k => k []) (fun o _ ih k => forceO o fun o => ih fun t => k (o :: t)) l
theorem forceH_eq {β : Type} : ∀ (l : AH) (k : AH → β), forceH l k = k l
  | [], k => rfl
  | o :: l, k => by
    show forceO o (fun o => forceH l fun t => k (o :: t)) = _
    rw [forceO_eq, forceH_eq l]
/-- All rows' places, and the last row's cells. -/
noncomputable def forceA {β : Type} (l : AH) : (AH → β) → β := List.rec (fun k => k []) (fun o t ih k => List.rec (forceO o fun o => k [o]) (fun _ _ _ => ih fun t => k (o :: t)) t) l
theorem forceA_eq {β : Type} : ∀ (l : AH) (k : AH → β), forceA l k = k l
  | [], _k => rfl
  | [o], k => forceO_eq o fun o => k [o]
  | o :: p :: l, k => forceA_eq (p :: l) fun t => k (o :: t)
def kindW : Op → Nat
  | .alloc _ | .box .. | .buildSlice .. | .makeSlice .. => 1
  | .store .. | .next .. => 2
  | .call { callee := .builtin b, .. } => match b with
    | .append | .copy | .clear => 2
    | _ => 0
  | _ => 0
noncomputable def settle (n : Nat) (r : Option (Option AV × AH)) : Option (Option AV × AH) :=
  bif Nat.beq n 0 then r else Option.rec none (fun p => bif Nat.beq n 1 then forceA p.2 fun H => some (p.1, H) else forceH p.2 fun H => some (p.1, H)) r
theorem settle_eq (n : Nat) (r : Option (Option AV × AH)) : settle n r = r := by
  unfold settle
  cases Nat.beq n 0 with
  | true => rfl
  | false =>
    cases r with
    | none => rfl
    | some p =>
      simp only [cond_false]
      cases Nat.beq n 1 with
      | true => exact forceA_eq p.2 fun H => some (p.1, H)
      | false => exact forceH_eq p.2 fun H => some (p.1, H)
noncomputable def finS (N : Nat) (H' : AH) (v : AV) : Option (AV × AH) := Prod.rec (fun v H2 => forceS H2 fun H2 => forceV v fun v => some (v, H2)) (finish N H' v)
theorem finS_eq (N : Nat) (H' : AH) (v : AV) : finS N H' v = some (finish N H' v) := by
  unfold finS
  cases finish N H' v with
  | mk v H2 => simp only [forceS_eq, forceV_eq]
noncomputable def qMv (x : QA) (e : Env) (H : AH) : Option (Option AV × AH) := some (some (qget e x), H)
noncomputable def qdo (P : Program) (call : Caller) (q : QO) (e : Env) (H : AH) : Option (Option AV × AH) :=
  @QO.rec (fun _ => Option (Option AV × AH)) (fun x => qMv x e H) (fun g x y o => qBin P g x y o e H) (fun x o => qLd P x o e H) (fun x y o => qSt P x y o e H) (fun z x i o => qIxs P z x i o e H) (fun n z x i o => qIxa P n z x i o e H)
    (fun x o => qLen P x o e H) (fun i x => qExt i x e H) (fun f as => qCall call f as e H) (fun o => qVcall P call o e H) (fun o => settle (kindW o) (execN P (oval e) H o)) q

theorem qRet_some {r : Option (AV × AH)} {v : Option AV} {H1 : AH} (h : qRet r = some (v, H1)) : ∃ u, r = some (u, H1) ∧ v = some u := by
  cases r with
  | none => cases h
  | some p => cases h; exact ⟨_, rfl, rfl⟩

def QDid (P : Program) (call : Caller) (o : Op) (e : Env) (H : AH) (v : Option AV) (H1 : AH) : Prop :=
  (isFnCall o = true ∧ ((∃ r args u, opYld (oval e) o = some (r, args) ∧ call (1000000 + r) args H = some (u, H1) ∧ v = some u) ∨
    (opYld (oval e) o = none ∧ ∃ f args u, opCall P (oval e) o = some (f, args) ∧ callN call f args H = some (u, H1) ∧ v = some u))) ∨ (isFnCall o = false ∧ execN P (oval e) H o = some (v, H1))

theorem onInt_some {α : Type} {v : AV} {no : Option α} {k : IntKind → Int → Option α} {r : α} (h : onInt v no k = some r) : no = some r ∨ ∃ t n, v = .int t n ∧ k t n = some r := by
  cases v <;> first | exact .inr ⟨_, _, rfl, h⟩ | exact .inl h
theorem onPtr_some {α : Type} {v : AV} {no : Option α} {k : Nat → Nat → Nat → Option α} {r : α} (h : onPtr v no k = some r) : no = some r ∨ ∃ a b c, v = .ptr a b c ∧ k a b c = some r := by
  cases v <;> first | exact .inr ⟨_, _, _, rfl, h⟩ | exact .inl h
theorem onSl_some {α : Type} {v : AV} {no : Option α} {k : Nat → Nat → Nat → Nat → Nat → Option α} {r : α} (h : onSl v no k = some r) : no = some r ∨ ∃ a b c d s f, v = .slice (some a) b c d s f ∧ k a b c d s = some r := by
  cases v <;> first | exact .inl h | (rename_i r _ _ _ _ _; cases r <;> first | exact .inl h | exact .inr ⟨_, _, _, _, _, _, rfl, h⟩)
theorem onRow_some {α : Type} {H : AH} {n : Nat} {k : List AV → Nat → Nat → Bool → Option α} {r : α} (h : onRow H n none k = some r) : ∃ c v s ro, H[n]? = some (.row c v s ro) ∧ k c v s ro = some r := by
  unfold onRow at h; rw [qnth_eq] at h; split at h
  · rename_i hr; exact ⟨_, _, _, _, hr, h⟩
  · cases h
theorem keepV_some {x : Option AV} {H H1 : AH} {v : Option AV} (h : keepV x H = some (v, H1)) : ∃ u, x = some u ∧ v = some u ∧ H1 = H := by
  unfold keepV at h; split at h
  · cases h; exact ⟨_, rfl, rfl, rfl⟩
  · cases h
theorem cond_some {α : Type} {b : Bool} {x y : Option α} {r : α} (h : (bif b then x else y) = some r) : (b = true ∧ x = some r) ∨ (b = false ∧ y = some r) := by
  cases b
  · exact .inr ⟨rfl, h⟩
  · exact .inl ⟨rfl, h⟩
theorem oneB_some {v : AV} (h : oneB v = true) : v.one = true ∧ v.isU = false ∧ acells v = [v] := by
  cases v <;> first | (simp [oneB] at h; done) | exact ⟨rfl, rfl, rfl⟩

theorem bin_did {P : Program} {call : Caller} {g : BinG} {op : BinOp} (hg : GOk g op) {t u : TypeId} {x y : Operand} {e : Env} {H H1 : AH} {v : Option AV}
    (h : qdo P call (.bin g (qa x) (qa y) (.binOp op t x y u)) e H = some (v, H1)) : QDid P call (.binOp op t x y u) e H v H1 := by
  refine .inr ⟨rfl, ?_⟩
  simp only [qdo, qBin, qBin1, qBin2] at h
  rcases onInt_some h with h | ⟨k, a, ha, h⟩
  · exact h
  rcases onInt_some h with h | ⟨k', b, hb, h⟩
  · exact h
  rcases cond_some h with ⟨hk, h⟩ | ⟨-, h⟩
  · obtain ⟨w, hw, rfl, rfl⟩ := keepV_some h
    have := kindEq_eq hk
    subst this
    rw [qget_eq] at ha hb
    have h1 := hg k a b w hw
    show (aPure P (oval e) (.binOp op t x y u)).map _ = _
    simp only [aPure, ha, hb, h1, Option.map_some]
  · exact h

theorem qdo_sound {P : Program} {call : Caller} {o : Op} {e : Env} {H H1 : AH} {v : Option AV} (h : qdo P call (qo P o) e H = some (v, H1)) : QDid P call o e H v H1 := by
  have hslow : isFnCall o = false → qdo P call (.slow o) e H = some (v, H1) → QDid P call o e H v H1 := fun hf h => .inr ⟨hf, (settle_eq _ _).symm.trans h⟩
  have hvcall : isFnCall o = true → qdo P call (.vcall o) e H = some (v, H1) → QDid P call o e H v H1 := by
    intro hf h
    simp only [qdo, qVcall] at h
    split at h
    · rename_i r args hc
      obtain ⟨u, hu, rfl⟩ := qRet_some h
      exact .inl ⟨hf, .inl ⟨r, args, u, hc, hu, rfl⟩⟩
    · rename_i hy
      split at h
      case h_2 => cases h
      rename_i f args hc
      obtain ⟨u, hu, rfl⟩ := qRet_some h
      exact .inl ⟨hf, .inr ⟨hy, f, args, u, hc, hu, rfl⟩⟩
  unfold qo at h
  split at h
  · rename_i x
    simp only [qdo, qMv] at h; cases h
    exact .inr ⟨rfl, by rw [qget_eq]; rfl⟩
  · rename_i x
    simp only [qdo, qMv] at h; cases h
    exact .inr ⟨rfl, by rw [qget_eq]; rfl⟩
  · rename_i op t x y u
    split at h
    · exact bin_did gAdd_ok h
    · exact bin_did gSub_ok h
    · exact bin_did gMul_ok h
    · exact bin_did gLss_ok h
    · exact bin_did gLeq_ok h
    · exact bin_did gGtr_ok h
    · exact bin_did gGeq_ok h
    · exact bin_did gEql_ok h
    · exact bin_did gNeq_ok h
    · exact hslow rfl h
  · rename_i t x
    split at h
    case h_2 => exact hslow rfl h
    rename_i d i hd hi
    cases hc : !isAggD d && Nat.beq i.size 1 with
    | false => rw [hc] at h; exact hslow rfl h
    | true =>
      rw [hc] at h
      simp only [cond_true, qdo, qLd, qLd1] at h
      rcases onPtr_some h with h | ⟨r, off, ver, hp, h⟩
      · exact .inr ⟨rfl, h⟩
      obtain ⟨c, w, s, ro, hr, h⟩ := onRow_some h
      rcases cond_some h with ⟨hv, h⟩ | ⟨-, h⟩
      · obtain ⟨u, hu, rfl, rfl⟩ := keepV_some h
        refine .inr ⟨rfl, ?_⟩
        rw [qget_eq] at hp
        rw [qnth_eq] at hu
        simp only [Bool.and_eq_true, Bool.not_eq_true'] at hc
        show (aRead P (oval e) H1 (.load t x)).map _ = _
        have hv' : w = ver ∨ off < s := by
          simp only [Bool.or_eq_true] at hv
          rcases hv with hv | hv
          · exact .inl (Nat.eq_of_beq_eq_true hv)
          · exact .inr (Nat.le_of_ble_eq_true hv)
        simp only [aRead, hd, hi, hp, hc.1, Bool.false_eq_true, if_false, ld, hr, if_pos hv', hu, Option.map_some]
      · cases h
  · rename_i t x y
    split at h
    case h_2 => exact hslow rfl h
    rename_i i hi
    cases hc : Nat.beq i.size 1 with
    | false => rw [hc] at h; exact hslow rfl h
    | true =>
      rw [hc] at h
      simp only [cond_true, qdo, qSt, qSt1, qSt2] at h
      rcases onPtr_some h with h | ⟨r, off, ver, hp, h⟩
      · exact .inr ⟨rfl, h⟩
      rcases cond_some h with ⟨ho, h⟩ | ⟨-, h⟩
      case inr => exact .inr ⟨rfl, h⟩
      obtain ⟨c, w, s, ro, hr, h⟩ := onRow_some h
      rcases cond_some h with ⟨hv, h⟩ | ⟨-, h⟩
      case inr => cases h
      cases hu : known (qnth c off) with
      | none => rw [hu] at h; cases h
      | some u =>
      rw [hu] at h
      simp only [qsetK_eq, forceN_eq] at h
      cases h
      refine .inr ⟨rfl, ?_⟩
      rw [qget_eq] at hp ho
      rw [qnth_eq] at hu
      rw [qget_eq, qset_eq, qset_eq]
      simp only [Bool.and_eq_true, Bool.not_eq_true'] at hv
      obtain ⟨h1, h2, h3⟩ := oneB_some ho
      have hsz := Nat.eq_of_beq_eq_true hc
      have hver := Nat.eq_of_beq_eq_true hv.1
      show aWrite P (oval e) H (.store t x y) = _
      have hmin : (bif Nat.ble s off then s else off) = min s off := by
        cases hb : Nat.ble s off with
        | true => have := Nat.le_of_ble_eq_true hb; simp; omega
        | false =>
          have : ¬ s ≤ off := fun hle => by rw [Nat.ble_eq_true_of_le hle] at hb; cases hb
          simp; omega
      have hst : st H r off ver (oval e y) = some (H.set r (.row (c.set off (oval e y)) w (min s off) ro)) := by
        simp only [st, hr]
        rw [if_pos ⟨hver, hv.2, h1⟩, hu]; rfl
      simp only [aWrite, hi, hp, h2, h3, List.length_singleton, hsz, Bool.false_or, bne_self_eq_false, Bool.false_eq_true, if_false, stn_cons, stn_nil, hst, Option.bind_some, Option.map_some, hmin]
  · rename_i t x i
    split at h
    · rename_i el hu
      split at h
      case h_2 => exact hslow rfl h
      rename_i ie hie
      simp only [qdo, qIxs, qIxs1] at h
      rcases onSl_some h with h | ⟨r, off, len, ver, sz, full, hp, h⟩
      · exact .inr ⟨rfl, h⟩
      rcases onInt_some h with h | ⟨k, n, hn, h⟩
      · cases h
      rcases cond_some h with ⟨hb, h⟩ | ⟨-, h⟩
      case inr => cases h
      cases h
      rw [qget_eq] at hp hn
      simp only [Bool.and_eq_true, Bool.not_eq_true', ilt_eq, decide_eq_false_iff_not, decide_eq_true_eq] at hb
      obtain ⟨⟨h1, h2⟩, h3⟩ := hb
      have h1' := Nat.eq_of_beq_eq_true h1
      refine .inr ⟨rfl, ?_⟩
      show (aPure P (oval e) (.indexAddr t x i)).map _ = _
      have h3' : n < (len : Int) := h3
      simp only [aPure, aIndexAddr, hu, hp, hn, hie]
      rw [if_pos ⟨h1', by omega, h3'⟩]; rfl
    · rename_i m el hu
      split at h
      case h_2 => exact hslow rfl h
      rename_i ie hie
      simp only [qdo, qIxa, qIxa1] at h
      rcases onPtr_some h with h | ⟨r, off, ver, hp, h⟩
      · exact .inr ⟨rfl, h⟩
      rcases onInt_some h with h | ⟨k, n, hn, h⟩
      · cases h
      rcases cond_some h with ⟨hb, h⟩ | ⟨-, h⟩
      case inr => cases h
      cases h
      rw [qget_eq] at hp hn
      simp only [Bool.and_eq_true, Bool.not_eq_true', ilt_eq, decide_eq_false_iff_not, decide_eq_true_eq] at hb
      refine .inr ⟨rfl, ?_⟩
      show (aPure P (oval e) (.indexAddr t x i)).map _ = _
      have h3' : n < (m : Int) := hb.2
      simp only [aPure, aIndexAddr, hu, hp, hn, hie]
      rw [if_pos ⟨by omega, h3'⟩]; rfl
    · exact hslow rfl h
  · rename_i x i
    simp only [qdo, qExt] at h
    split at h
    case h_2 => cases h
    rename_i vs hx
    obtain ⟨u, hu, rfl, rfl⟩ := keepV_some h
    rw [qget_eq] at hx
    rw [qnth_eq] at hu
    refine .inr ⟨rfl, ?_⟩
    show (aPure P (oval e) (.extract x i)).map _ = _
    simp only [aPure, hx, hu, Option.map_some]
  · rename_i c
    split at h
    · rename_i g hcal
      have hf : isFnCall (.call c) = true := by cases c; simp only at hcal; subst hcal; rfl
      split at h
      · rename_i f
        cases hok : okFn P f with
        | false => rw [hok] at h; exact hvcall hf h
        | true =>
          rw [hok] at h
          simp only [cond_true, qdo, qCall] at h
          rw [qargs_eq] at h
          obtain ⟨u, hu, rfl⟩ := qRet_some h
          refine .inl ⟨hf, .inr ⟨?_, f, _, u, ?_, hu, rfl⟩⟩
          · cases c
            simp only at hcal
            subst hcal
            simp [opYld, oval]
          · cases c
            simp only at hcal
            subst hcal
            simp [opCall, oval, hok]
      · exact hvcall hf h
    · rename_i r n hcal
      have hf : isFnCall (.call c) = true := by cases c; simp only at hcal; subst hcal; rfl
      exact hvcall hf h
    · rename_i b hcal
      have hf : isFnCall (.call c) = false := by cases c; simp only at hcal; subst hcal; rfl
      split at h
      · split at h
        · rename_i x t hx ht
          split at h
          · rename_i el hu
            simp only [qdo, qLen] at h
            rcases onSl_some h with h | ⟨r, off, len, ver, sz, full, hp, h⟩
            · exact .inr ⟨hf, h⟩
            cases h
            rw [qget_eq] at hp
            refine .inr ⟨hf, ?_⟩
            obtain ⟨cal, as, ts⟩ := c
            simp only at hcal hx ht
            obtain rfl : as = #[x] := by rw [← Array.toList_inj]; exact hx
            obtain rfl : ts = #[t] := by rw [← Array.toList_inj]; exact ht
            subst hcal
            show (aPure P (oval e) _).map _ = _
            simp [aPure, aLen, hu, hp]
          · exact hslow hf h
        · exact hslow hf h
      · exact hslow hf h
  · rename_i hno
    refine hslow ?_ h
    cases o with
    | call c => exact absurd rfl (hno c)
    | _ => rfl

structure QOper where
  dst : Option Nat
  q : QO
  guard : Option (Nat × Bool)

noncomputable def qcomp (P : Program) (nt : Nat) (ops : Array Oper) (l : List Oper) : Option (List QOper) :=
  List.rec (some []) (fun o _ ih => bif dstOk nt o.dst then match ih with
    | none => none
    | some l => match o.guard with
      | none => some (⟨o.dst, qo P o.op, none⟩ :: l)
      | some (j, want) => match (ops[j]?).bind (·.dst) with
        | none => none
        | some t => some (⟨o.dst, qo P o.op, some (t, want)⟩ :: l)
    else none) l

noncomputable def qPut (v : Option AV) (H1 : AH) (dst : Option Nat) (e : Env) (k : Env → AH → Option (Env × AH)) : Option (Env × AH) :=
  Option.rec (k (putC e dst .undef) H1) (fun v => forceV v fun v => k (putC e dst v) H1) v
noncomputable def qStep (r : Option (Option AV × AH)) (dst : Option Nat) (e : Env) (k : Env → AH → Option (Env × AH)) : Option (Env × AH) :=
  Option.rec none (fun p => qPut p.1 p.2 dst e k) r
noncomputable def qGuard (P : Program) (call : Caller) (tw : Nat × Bool) (q : QO) (dst : Option Nat) (e : Env) (H : AH) (k : Env → AH → Option (Env × AH)) : Option (Env × AH) :=
  match qe e tw.1 with
  | .bool b => bif b == tw.2 then qStep (qdo P call q e H) dst e k else k (putC e dst .undef) H
  | _ => none
noncomputable def qOne (P : Program) (call : Caller) (o : QOper) (k : Env → AH → Option (Env × AH)) (e : Env) (H : AH) : Option (Env × AH) :=
  Option.rec (qStep (qdo P call o.q e H) o.dst e k) (fun tw => qGuard P call tw o.q o.dst e H k) o.guard
noncomputable def runQ (P : Program) (call : Caller) (l : List QOper) : Env → AH → Option (Env × AH) :=
  List.rec (fun e H => some (e, H)) (fun o _ ih e H => qOne P call o ih e H) l

theorem qcomp_cons {P : Program} {nt : Nat} {ops : Array Oper} {o : Oper} {l : List Oper} {ql : List QOper} (h : qcomp P nt ops (o :: l) = some ql) :
    dstOk nt o.dst = true ∧ ∃ ql', qcomp P nt ops l = some ql' ∧ ((o.guard = none ∧ ql = ⟨o.dst, qo P o.op, none⟩ :: ql') ∨ ∃ j want t, o.guard = some (j, want) ∧ (ops[j]?).bind (·.dst) = some t ∧ ql = ⟨o.dst, qo P o.op, some (t, want)⟩ :: ql') := by
  have h' : (bif dstOk nt o.dst then match qcomp P nt ops l with
    | none => none
    | some l => match o.guard with
      | none => some (⟨o.dst, qo P o.op, none⟩ :: l)
      | some (j, want) => match (ops[j]?).bind (·.dst) with
        | none => none
        | some t => some (⟨o.dst, qo P o.op, some (t, want)⟩ :: l)
    else none) = some ql := h
  clear h
  rcases cond_some h' with ⟨hd, h⟩ | ⟨-, h⟩
  case inr => cases h
  refine ⟨hd, ?_⟩
  split at h
  case h_1 => cases h
  rename_i ql' hq
  refine ⟨ql', hq, ?_⟩
  split at h
  · rename_i hg; cases h; exact .inl ⟨hg, rfl⟩
  · rename_i j want hg
    split at h
    case h_1 => cases h
    rename_i t ht
    cases h
    exact .inr ⟨j, want, t, hg, ht, rfl⟩

theorem runQ_eq {P : Program} {call : Caller} {nt : Nat} {ops : Array Oper} : ∀ {l : List Oper} {ql : List QOper} {e e' : Env} {H H' : AH}, qcomp P nt ops l = some ql → runQ P call ql e H = some (e', H') → runO P call nt ops l e H = some (e', H')
  | [], ql, e, e', H, H', hq, h => by
    have : (some [] : Option (List QOper)) = some ql := hq
    cases this
    exact h
  | o :: l, ql, e, e', H, H', hq, h => by
    obtain ⟨hd, ql', hq', hg⟩ := qcomp_cons hq
    rw [runO_cons]
    have step : qStep (qdo P call (qo P o.op) e H) o.dst e (runQ P call ql') = some (e', H') →
        (bif dstOk nt o.dst then
        bif isFnCall o.op then
          match opYld (oval e) o.op with
          | some (r, args) =>
            match call (1000000 + r) args H with
            | none => none
            | some (v, H1) => forceV v fun v => runO P call nt ops l (putC e o.dst v) H1
          | none =>
          match opCall P (oval e) o.op with
          | none => none
          | some (f, args) =>
            match callN call f args H with
            | none => none
            | some (v, H1) => forceV v fun v => runO P call nt ops l (putC e o.dst v) H1
        else
          match execN P (oval e) H o.op with
          | none => none
          | some (some v, H1) => forceV v fun v => runO P call nt ops l (putC e o.dst v) H1
          | some (none, H1) => runO P call nt ops l (putC e o.dst .undef) H1
      else none) = some (e', H') := by
      intro h
      rw [hd]
      simp only [cond_true]
      cases hv : qdo P call (qo P o.op) e H with
      | none => rw [hv] at h; cases h
      | some p =>
      rw [hv] at h
      obtain ⟨v, H1⟩ := p
      cases v with
      | some v =>
        have h : forceV v (fun v => runQ P call ql' (putC e o.dst v) H1) = some (e', H') := h
        rw [forceV_eq] at h
        have h2 := runQ_eq hq' h
        rcases qdo_sound hv with ⟨hf, ⟨r, args, u, h3, h4, h5⟩ | ⟨h0, f, args, u, h3, h4, h5⟩⟩ | ⟨hf, h3⟩
        · cases h5
          simp only [hf, cond_true, h3, h4, forceV_eq, h2]
        · cases h5
          simp only [hf, cond_true, h0, h3, h4, forceV_eq, h2]
        · simp only [hf, cond_false, h3, forceV_eq, h2]
      | none =>
        have h : runQ P call ql' (putC e o.dst .undef) H1 = some (e', H') := h
        have h2 := runQ_eq hq' h
        rcases qdo_sound hv with ⟨hf, ⟨r, args, u, h3, h4, h5⟩ | ⟨h0, f, args, u, h3, h4, h5⟩⟩ | ⟨hf, h3⟩
        · cases h5
        · cases h5
        · simp only [hf, cond_false, h3, h2]
    rcases hg with ⟨hg, rfl⟩ | ⟨j, want, t, hg, ht, rfl⟩
    · have hw : wantedA ops e o = some true := by simp only [wantedA, hg]
      rw [hw]
      exact step h
    · have h' : (match qe e t with
      | .bool b => bif b == want then qStep (qdo P call (qo P o.op) e H) o.dst e (runQ P call ql') else runQ P call ql' (putC e o.dst .undef) H
      | _ => none) = some (e', H') := h
      rw [qe_eq] at h'
      split at h'
      case h_2 => cases h'
      rename_i b hb
      have hw : wantedA ops e o = some (b == want) := by simp only [wantedA, hg, ht, hb]
      rw [hw]
      cases hbw : b == want with
      | true => rw [hbw] at h'; exact step h'
      | false => rw [hbw] at h'; exact runQ_eq hq' h'

noncomputable def forceE {β : Type} (l : Env) : (Env → β) → β := List.rec (fun k => k []) (fun p _ ih k => ih fun t => k (p :: t)) l
theorem forceE_eq {β : Type} : ∀ (l : Env) (k : Env → β), forceE l k = k l
  | [], _k => rfl
  | o :: l, k => forceE_eq l fun t => k (o :: t)

noncomputable def runJ (P : Program) (ks : List Nat) (call : Caller) (nt : Nat) (n : Nat) : Code → Env → AH → Option (Ex × Env × AH) :=
  Nat.rec (fun _ _ _ => none) (fun _ ih c e H =>
    match c with
    | .skip | .label _ => some (.normal, e, H)
    | .region _ ops draw =>
      bif draw && slowD ops then
        match runOps P (callN call) nt ops ops.toList e H with
        | none => none
        | some (tr, e', H') => bif readsB P ops tr then some (.normal, e', H') else none
      else match qcomp P nt ops ops.toList with
        | none => none
        | some ql => match runQ P (bif draw then callN call else call) ql e H with
          | none => none
          | some (e', H') => some (.normal, e', H')
    | .seq a b =>
      match ih a e H with
      | some (.normal, e, H) => ih b e H
      | r => r
    | .cond x a b =>
      match oval e x with
      | .bool true => ih a e H
      | .bool false => ih b e H
      | _ => none
    | .block i a =>
      match ih a e H with
      | some (.exit j, e, H) => bif Nat.beq j i then some (.normal, e, H) else some (.exit j, e, H)
      | r => r
    | .loop a =>
      match ih a (ekeep ks e) H with
      | some (.normal, e, H) => ih (.loop a) e H
      | r => r
    | .exit i => some (.exit i, e, H)
    | .goto l => some (.goto l, e, H)
    | .ret => some (.ret, e, H)
    | .rangeFunc g ps a b =>
      match oval e g with
      | .func (.func f) [] caps =>
        bif okFn P f then
          forceN H.length fun r => forceE (ekeep ks e) fun e1 => forceS (H ++ [.loop .ready .normal ⟨nt, e1, ps, a, b⟩]) fun H0 =>
          match callN call f (.yld r :: caps) H0 with
          | some (_, H') =>
            match qnth H' r with
            | some (.loop s pe L) => match s with
              | .busy => none
              | _ => qsetK H' (.loop .exhausted pe L) r fun H2 => some (pe, e1, H2)
            | _ => none
          | none => none
        else none
      | _ => none
    | _ => none) n

theorem runJ_succ {P : Program} {ks : List Nat} {call : Caller} {nt n : Nat} {c : Code} {e : Env} {H : AH} : runJ P ks call nt (n + 1) c e H = match c with
      | .skip | .label _ => some (.normal, e, H)
      | .region _ ops draw =>
        bif draw && slowD ops then
          match runOps P (callN call) nt ops ops.toList e H with
          | none => none
          | some (tr, e', H') => bif readsB P ops tr then some (.normal, e', H') else none
        else match qcomp P nt ops ops.toList with
          | none => none
          | some ql => match runQ P (bif draw then callN call else call) ql e H with
            | none => none
            | some (e', H') => some (.normal, e', H')
      | .seq a b =>
        match runJ P ks call nt n a e H with
        | some (.normal, e, H) => runJ P ks call nt n b e H
        | r => r
      | .cond x a b =>
        match oval e x with
        | .bool true => runJ P ks call nt n a e H
        | .bool false => runJ P ks call nt n b e H
        | _ => none
      | .block i a =>
        match runJ P ks call nt n a e H with
        | some (.exit j, e, H) => bif Nat.beq j i then some (.normal, e, H) else some (.exit j, e, H)
        | r => r
      | .loop a =>
        match runJ P ks call nt n a (ekeep ks e) H with
        | some (.normal, e, H) => runJ P ks call nt n (.loop a) e H
        | r => r
      | .exit i => some (.exit i, e, H)
      | .goto l => some (.goto l, e, H)
      | .ret => some (.ret, e, H)
      | .rangeFunc g ps a b =>
        match oval e g with
        | .func (.func f) [] caps =>
          bif okFn P f then
            forceN H.length fun r => forceE (ekeep ks e) fun e1 => forceS (H ++ [.loop .ready .normal ⟨nt, e1, ps, a, b⟩]) fun H0 =>
            match callN call f (.yld r :: caps) H0 with
            | some (_, H') =>
              match qnth H' r with
              | some (.loop s pe L) => match s with
                | .busy => none
                | _ => qsetK H' (.loop .exhausted pe L) r fun H2 => some (pe, e1, H2)
              | _ => none
            | none => none
          else none
        | _ => none
      | _ => none := rfl

theorem runJ_runK {P : Program} {ks : List Nat} {call : Caller} {nt : Nat} : ∀ (n : Nat) (c : Code) (e : Env) (H : AH) (r : Ex × Env × AH), runJ P ks call nt n c e H = some r → runK P ks call nt n c e H = some r := by
  intro n
  induction n with
  | zero => intro c e H r h; cases h
  | succ n ih =>
    intro c e H r h
    rw [runJ_succ] at h
    rw [runK_succ]
    cases c with
    | skip => exact h
    | label l => exact h
    | exit l => exact h
    | goto l => exact h
    | ret => exact h
    | rangeFunc g ps a b =>
      simp only [] at h ⊢
      split at h
      case h_2 => cases h
      rename_i f caps hg
      rw [hg]
      simp only []
      cases hok : okFn P f with
      | false => rw [hok] at h; cases h
      | true =>
      rw [hok] at h
      simp only [cond_true, forceN_eq, forceE_eq, forceS_eq] at h ⊢
      split at h
      case h_2 => cases h
      rename_i v H1 hcall
      rw [hcall]
      simp only [qnth_eq] at h ⊢
      split at h
      case h_2 => cases h
      rename_i s pe L hrow
      rw [hrow]
      cases s <;> simp only [qsetK_eq, qset_eq] at h ⊢ <;> first | (cases h; done) | exact h
    | scope => exact h
    | refuse => exact h
    | region id ops draw =>
      simp only [] at h ⊢
      rcases cond_some h with ⟨hc, h⟩ | ⟨hc, h⟩
      · rw [hc]; exact h
      · rw [hc]
        simp only [cond_false]
        split at h
        case h_1 => cases h
        rename_i ql hq
        split at h
        case h_1 => cases h
        rename_i e1 H1 hr
        cases h
        rw [runQ_eq hq hr]
    | seq a b =>
      simp only [] at h ⊢
      cases hx : runJ P ks call nt n a e H with
      | none => rw [hx] at h; cases h
      | some r1 =>
        rw [hx] at h
        rw [ih _ _ _ _ hx]
        obtain ⟨x, e1, H1⟩ := r1
        cases x with
        | normal => exact ih _ _ _ _ h
        | exit i => exact h
        | goto i => exact h
        | ret => exact h
    | cond y a b =>
      simp only [] at h ⊢
      split at h
      · rename_i hy; rw [hy]; exact ih _ _ _ _ h
      · rename_i hy; rw [hy]; exact ih _ _ _ _ h
      · cases h
    | block i a =>
      simp only [] at h ⊢
      cases hx : runJ P ks call nt n a e H with
      | none => rw [hx] at h; cases h
      | some r1 =>
        rw [hx] at h
        rw [ih _ _ _ _ hx]
        exact h
    | loop a =>
      simp only [] at h ⊢
      cases hx : runJ P ks call nt n a (ekeep ks e) H with
      | none => rw [hx] at h; cases h
      | some r1 =>
        rw [hx] at h
        rw [ih _ _ _ _ hx]
        obtain ⟨x, e1, H1⟩ := r1
        cases x with
        | normal => exact ih _ _ _ _ h
        | exit i => exact h
        | goto i => exact h
        | ret => exact h

noncomputable def runZ {P : Program} (C : Cx P) (n : Nat) : Caller :=
  Nat.rec (fun _ _ _ => none) (fun n ih f args H =>
    bif Nat.ble f 999999 then
    match C.ext f args H with
    | some r => some r
    | none =>
      bif C.good f then
        match P.funcs[f]? with
        | none => none
        | some fn =>
          match fn.body with
          | none => none
          | some c => forceN (max args.length fn.ntmps) fun nt =>
            match runJ P (C.keep f) ih nt n c (argsEnv 0 args) H with
            | some (.normal, e, H') | some (.ret, e, H') =>
              match aResults P fn e H' with
              | some v => bif Nat.beq H.length H'.length then some (v, H') else bif prefB H.length H' then finS H.length H' v else some (v, H')
              | none => none
            | _ => none
      else none
    else
    forceN (Nat.sub f 1000000) fun r =>
    match qnth H r with
    | some (.loop .ready _ L) =>
      bif Nat.beq args.length L.ps.size && ((L.ps.all fun p => decide (p < L.nt)) && (codeOrd L.assign && codeOrd L.body)) then
        match runJ P (List.range L.nt) ih L.nt n L.assign (psEnv L.ps.toList args L.e) H with
        | some (.normal, e1, H1) =>
          match qnth H1 r with
          | some (.loop .ready pe1 L1) =>
            qsetK H1 (.loop .busy pe1 L1) r fun H1 =>
            match runJ P (List.range L.nt) ih L.nt n L.body e1 H1 with
            | some (x2, _, H2) =>
              match qnth H2 r with
              | some (.loop _ _ L2) => match x2 with
                | .normal => qsetK H2 (.loop .ready .normal L2) r fun H3 => some (.bool true, H3)
                | x2 => qsetK H2 (.loop .done x2 L2) r fun H3 => some (.bool false, H3)
              | _ => none
            | none => none
          | _ => none
        | _ => none
      else none
    | _ => none) n

theorem runZ_succ {P : Program} {C : Cx P} {n : Nat} {f : FuncId} {args : List AV} {H : AH} : runZ C (n + 1) f args H =
    bif Nat.ble f 999999 then
    match C.ext f args H with
    | some r => some r
    | none =>
      bif C.good f then
        match P.funcs[f]? with
        | none => none
        | some fn =>
          match fn.body with
          | none => none
          | some c => forceN (max args.length fn.ntmps) fun nt =>
            match runJ P (C.keep f) (runZ C n) nt n c (argsEnv 0 args) H with
            | some (.normal, e, H') | some (.ret, e, H') =>
              match aResults P fn e H' with
              | some v => bif Nat.beq H.length H'.length then some (v, H') else bif prefB H.length H' then finS H.length H' v else some (v, H')
              | none => none
            | _ => none
      else none
    else
    forceN (Nat.sub f 1000000) fun r =>
    match qnth H r with
    | some (.loop .ready _ L) =>
      bif Nat.beq args.length L.ps.size && ((L.ps.all fun p => decide (p < L.nt)) && (codeOrd L.assign && codeOrd L.body)) then
        match runJ P (List.range L.nt) (runZ C n) L.nt n L.assign (psEnv L.ps.toList args L.e) H with
        | some (.normal, e1, H1) =>
          match qnth H1 r with
          | some (.loop .ready pe1 L1) =>
            qsetK H1 (.loop .busy pe1 L1) r fun H1 =>
            match runJ P (List.range L.nt) (runZ C n) L.nt n L.body e1 H1 with
            | some (x2, _, H2) =>
              match qnth H2 r with
              | some (.loop _ _ L2) => match x2 with
                | .normal => qsetK H2 (.loop .ready .normal L2) r fun H3 => some (.bool true, H3)
                | x2 => qsetK H2 (.loop .done x2 L2) r fun H3 => some (.bool false, H3)
              | _ => none
            | none => none
          | _ => none
        | _ => none
      else none
    | _ => none := rfl

section
variable {P : Program}
theorem runZ_sound {C : Cx P} (hC : C.Ok) : ∀ n, CallOk P (callN (runZ C n)) ∧ CallY P (runZ C n) := by
  intro n
  induction n with
  | zero =>
    refine ⟨fun f args H v H' h => ?_, fun r args H v H' h => by cases h⟩
    simp only [callN] at h
    cases hb : Nat.ble f 999999 <;> rw [hb] at h <;> cases h
  | succ n ih =>
   refine ⟨fun f args H v H' h => ?_, fun r args H v H' h => ?_⟩
   · simp only [callN] at h
     cases hbl : Nat.ble f 999999 with
     | false => rw [hbl] at h; cases h
     | true =>
     rw [hbl, cond_true, runZ_succ, hbl, cond_true] at h
     split at h
     · rename_i r hr
       cases h
       exact hC.ext _ _ _ _ _ hr
     · rcases cond_some h with ⟨hg, h⟩ | ⟨-, h⟩
       case inr => cases h
       split at h
       case h_1 => cases h
       rename_i fn hf
       split at h
       case h_1 => cases h
       rename_i c hb
       rw [forceN_eq] at h
       have ho : codeOrd c = true := by
         have := hC.ord f hg
         simpa only [fnOrd, hf, hb] using this
       have fin : ∀ {x : Ex} {e1 : Env} {H1 : AH} {v1 : AV}, runJ P (C.keep f) (runZ C n) (max args.length fn.ntmps) n c (argsEnv 0 args) H = some (x, e1, H1) → (x = .normal ∨ x = .ret) →
           aResults P fn e1 H1 = some v1 → (bif Nat.beq H.length H1.length then some (v1, H1) else bif prefB H.length H1 then finS H.length H1 v1 else some (v1, H1)) = some (v, H') → AC P f args H fun v' H2 => v' = v ∧ H2 = H' := by
         intro x e1 H1 v1 hrun hx hres hfin
         have hW := runK_sound (P := P) hC.mixed ih.1 ih.2 n c _ _ _ _ _ ho (runJ_runK _ _ _ _ _ hrun)
         have plain : v1 = v ∧ H1 = H' → AC P f args H fun v' H2 => v' = v ∧ H2 = H' := by
           rintro ⟨rfl, rfl⟩
           refine AC_of_body hf hb rfl (hW.mono ?_)
           rintro x2 e2 H2 ⟨rfl, he, rfl⟩
           exact ⟨hx, _, by rw [aResults_eqE he]; exact hres, rfl, rfl⟩
         rcases cond_some hfin with ⟨-, hfin⟩ | ⟨-, hfin⟩
         · cases hfin; exact plain ⟨rfl, rfl⟩
         rcases cond_some hfin with ⟨hp, hfin⟩ | ⟨-, hfin⟩
         · rw [finS_eq] at hfin
           have hfin' : finish H.length H1 v1 = (v, H') := by simpa using hfin
           refine AC_fin (AC_of_body hf hb rfl (hW.mono ?_))
           rintro x2 e2 H2 ⟨rfl, he, rfl⟩
           exact ⟨hx, v1, by rw [aResults_eqE he]; exact hres, prefB_ok hp, by rw [hfin'], by rw [hfin']⟩
         · cases hfin; exact plain ⟨rfl, rfl⟩
       split at h
       · rename_i e1 H1 hrun
         split at h
         · rename_i v1 hres; exact fin hrun (.inl rfl) hres h
         · cases h
       · rename_i e1 H1 hrun
         split at h
         · rename_i v1 hres; exact fin hrun (.inr rfl) hres h
         · cases h
       · cases h
   · have hbl : Nat.ble (1000000 + r) 999999 = false := by
       cases h : Nat.ble (1000000 + r) 999999 with
       | false => rfl
       | true => have := Nat.le_of_ble_eq_true h; omega
     have hsub : Nat.sub (1000000 + r) 1000000 = r := Nat.add_sub_cancel_left ..
     rw [runZ_succ, hbl, cond_false, forceN_eq, hsub] at h
     simp only [qnth_eq] at h
     split at h
     case h_2 => cases h
     rename_i pe L hrow
     rcases cond_some' h with ⟨hck, h⟩
     simp only [Bool.and_eq_true] at hck
     obtain ⟨hlen, hps, ho1, ho2⟩ := hck
     split at h
     case h_2 => cases h
     rename_i e1 H1 hr1
     split at h
     case h_2 => cases h
     rename_i pe1 L1 hrow1
     simp only [qsetK_eq, qset_eq] at h
     split at h
     case h_2 => cases h
     rename_i x2 e2 H2 hr2
     split at h
     case h_2 => cases h
     rename_i s2 pe2 L2 hrow2
     refine ⟨pe, L, hrow, Nat.eq_of_beq_eq_true hlen, hps, (runK_sound hC.mixed ih.1 ih.2 n _ _ _ _ _ _ ho1 (runJ_runK _ _ _ _ _ hr1)).mono ?_⟩
     rintro x e3 H3 ⟨rfl, he, rfl⟩
     refine ⟨rfl, pe1, L1, hrow1, ((runK_sound hC.mixed ih.1 ih.2 n _ _ _ _ _ _ ho2 (runJ_runK _ _ _ _ _ hr2)).eqE he).mono ?_⟩
     rintro x4 e4 H4 ⟨rfl, he4, rfl⟩
     refine ⟨s2, pe2, L2, hrow2, ?_⟩
     cases x4 <;> simp only [] at h <;> cases h <;> exact ⟨rfl, rfl⟩

theorem AC_runZ {C : Cx P} (hC : C.Ok) (n : Nat) {f : FuncId} {args : List AV} {H : AH} {v : AV} {H' : AH} (h : callN (runZ C n) f args H = some (v, H')) : AC P f args H fun v' H2 => v' = v ∧ H2 = H' :=
  (runZ_sound hC n).1 f args H v H' h
/-- What a run over no rows gives, it gives over all. -/
theorem AC_kernZ {C : Cx P} (hC : C.Ok) (n : Nat) {f : FuncId} {args : List AV} {v : AV} {H : AH} {Q : AV → AH → Prop} (h : callN (runZ C n) f args [] = some (v, [])) (ha : Bels 0 args) (hv : Bel 0 v) (hq : Q v H) : AC P f args H Q :=
  ((AC_runZ hC n h).closed ha hv H).mono fun v' H' ⟨h1, h2⟩ => by rw [h1, h2]; exact hq
/-- The same over package variables. -/
theorem AC_kernG {C : Cx P} (hC : C.Ok) (n : Nat) (gs : List (Nat × List AV)) {f : FuncId} {args : List AV} {v : AV} {H : AH} {Q : AV → AH → Prop} (hg : HasG gs H) (h : callN (runZ C n) f args (gRows gs) = some (v, gRows gs)) (ha : Bels 0 args) (hv : Bel 0 v) (hq : Q v H) : AC P f args H Q :=
  ((AC_runZ hC n h).closedG ha hv H hg).mono fun v' H' ⟨h1, h2⟩ => by rw [h1, h2]; exact hq
end
end Go.Proofs.Ytbimapbcpmeooaa.AX
