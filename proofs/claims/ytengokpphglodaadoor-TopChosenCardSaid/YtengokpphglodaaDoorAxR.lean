/- A plain reading of runs (R). -/
import Derived.Test.YtengokpphglodaaDoorAxN
import Derived.Test.YtengokpphglodaaDoorAxO
import Derived.Test.YtengokpphglodaaDoorAxX
import Derived.Scope
/- A plain reading of runs: stepping through a statement whose order is open, whose last operation follows all others. -/
namespace Go.Proofs.YtengokpphglodaaDoor.AX
open Go Go.RowKit

def allocK : Op → Bool
  | .alloc _ | .box .. | .buildSlice .. | .makeSlice .. => true
  | _ => false
/-- All but the last operation write nothing but new rows; the last one follows all of them. -/
def lastS (ops : Array Oper) : Bool :=
  ordOK ops && (ops.toList.dropLast.all fun o => !isW o.op || allocK o.op) && (List.range (ops.size - 1)).all fun i => anc (masks ops.toList []) (ops.size - 1) i

section
variable {P : Program} {nt : Nat} {ops : Array Oper} {e : Env} {H H0 : AH}

def wpL (P : Program) (nt : Nat) (ops : Array Oper) (H0 : AH) : List Oper → Env → AH → (Env → AH → Prop) → Prop
  | [], e, H, K => K e H
  | [o], e, H, K => wpO P nt ops [o] e H K
  | o :: o2 :: rest, e, H, K =>
    wantS (wantedA ops e o)
      (dstOk nt o.dst = true ∧ resS (execN P (oval e) (rdH o.op H0 H) o.op) fun v H' => wpL P nt ops H0 (o2 :: rest) (putDst e o.dst v) (bkH o.op H H') K)
      (wpL P nt ops H0 (o2 :: rest) (putDst e o.dst none) H K)

@[congr] theorem c_wpL {l : List Oper} {e e' : Env} {H H' : AH} {K : Env → AH → Prop} (h : e = e') (h' : H = H') : wpL P nt ops H0 l e H K = wpL P nt ops H0 l e' H' K := by rw [h, h']
@[simp] theorem l_one (o : Oper) (K : Env → AH → Prop) : wpL P nt ops H0 [o] e H K = wpO P nt ops [o] e H K := rfl
@[simp] theorem l_consN (d : Option Tmp) (op : Op) (t : TypeId) (p : String) (af : Array Edge) (o2 : Oper) (rest : List Oper) (K : Env → AH → Prop) : wpL P nt ops H0 (⟨d, op, t, p, af, none⟩ :: o2 :: rest) e H K =
      (dstOk nt d = true ∧ resS (execN P (oval e) (rdH op H0 H) op) (holdQ (fun v H' => wpL P nt ops H0 (o2 :: rest) (putDst e d v) (bkH op H H') K) ⟨⟩)) := by
  simp only [wpL, wantedA, wantS, holdQ]
  simp
@[simp] theorem l_consG (d : Option Tmp) (op : Op) (t : TypeId) (p : String) (af : Array Edge) (j : Nat) (want : Bool) (o2 : Oper) (rest : List Oper) (K : Env → AH → Prop) : wpL P nt ops H0 (⟨d, op, t, p, af, some (j, want)⟩ :: o2 :: rest) e H K = wantS (guardVal (slotV e (slotOf ops j)) want)
      (dstOk nt d = true ∧ resS (execN P (oval e) (rdH op H0 H) op) (holdQ (fun v H' => wpL P nt ops H0 (o2 :: rest) (putDst e d v) (bkH op H H') K) ⟨⟩))
      (wpL P nt ops H0 (o2 :: rest) (putDst e d none) H K) := by
  have : wantedA ops e ⟨d, op, t, p, af, some (j, want)⟩ = guardVal (slotV e (slotOf ops j)) want := by
    unfold wantedA guardVal slotOf slotV
    simp only []
    cases (ops[j]?).bind (·.dst) <;> rfl
  rw [wpL, this]
  rfl
@[simp] theorem rd_alloc (t : TypeId) : rdH (.alloc t) H0 H = H := rfl
@[simp] theorem bk_alloc (t : TypeId) : bkH (.alloc t) H H0 = H0 := rfl
@[simp] theorem rd_box (t : TypeId) (x : Operand) : rdH (.box t x) H0 H = H := rfl
@[simp] theorem bk_box (t : TypeId) (x : Operand) : bkH (.box t x) H H0 = H0 := rfl
@[simp] theorem rd_buildSlice (t : TypeId) (n : Nat) (ps : Array (Nat × Operand)) : rdH (.buildSlice t n ps) H0 H = H := rfl
@[simp] theorem bk_buildSlice (t : TypeId) (n : Nat) (ps : Array (Nat × Operand)) : bkH (.buildSlice t n ps) H H0 = H0 := rfl
@[simp] theorem rd_makeSlice (t : TypeId) (x y : Operand) : rdH (.makeSlice t x y) H0 H = H := rfl
@[simp] theorem bk_makeSlice (t : TypeId) (x y : Operand) : bkH (.makeSlice t x y) H H0 = H0 := rfl
@[simp] theorem rd_makeFunc (f : Fn) (a b : Array Operand) : rdH (.makeFunc f a b) H0 H = H := rfl
@[simp] theorem bk_makeFunc (f : Fn) (a b : Array Operand) : bkH (.makeFunc f a b) H H0 = H0 := rfl
end

section
variable {P : Program} {nt : Nat} {ops : Array Oper} {e : Env} {H H0 : AH}
/-- The first m operations make rows at most, and what they read lay there before; the others are in order with what they touch. -/
def wpW (P : Program) (nt : Nat) (ops : Array Oper) (H0 : AH) : Nat → List Oper → Env → AH → (Env → AH → Prop) → Prop
  | 0, l, e, H, K => wpT P nt ops l e H K
  | _ + 1, [], e, H, K => K e H
  | m + 1, o :: rest, e, H, K =>
    wantS (wantedA ops e o)
      (dstOk nt o.dst = true ∧
        if isFnCall o.op then callS (opCall P (oval e) o.op) fun f args => exX P H f args fun v H' => wpW P nt ops H0 m rest (putDst e o.dst (some v)) H' K
        else resS (execN P (oval e) (rdH o.op H0 H) o.op) fun v H' => wpW P nt ops H0 m rest (putDst e o.dst v) (bkH o.op H H') K)
      (wpW P nt ops H0 m rest (putDst e o.dst none) H K)
/-- Reads and writings that are in no order are among the first m operations, which make rows at most. -/
def partS (m : Nat) (ops : Array Oper) : Bool :=
  ordOK ops && (let ms := masks ops.toList []; ops.toList.zipIdx.all fun x => !isR x.1.op || ops.toList.zipIdx.all fun y => !isW y.1.op || anc ms x.2 y.2 || anc ms y.2 x.2 || (decide (x.2 < m) && decide (y.2 < m))) &&
    ops.toList.zipIdx.all fun z => !isW z.1.op || isMk z.1.op || decide (m ≤ z.2)
@[congr] theorem c_wpW {m : Nat} {l : List Oper} {e e' : Env} {H H' : AH} {K : Env → AH → Prop} (h : e = e') (h' : H = H') : wpW P nt ops H0 m l e H K = wpW P nt ops H0 m l e' H' K := by rw [h, h']
@[simp] theorem w_zero (l : List Oper) (K : Env → AH → Prop) : wpW P nt ops H0 0 l e H K = wpT P nt ops l e H K := by cases l <;> rfl
@[simp] theorem w_consN (m : Nat) (d : Option Tmp) (op : Op) (t : TypeId) (p : String) (af : Array Edge) (rest : List Oper) (K : Env → AH → Prop) : wpW P nt ops H0 (m + 1) (⟨d, op, t, p, af, none⟩ :: rest) e H K =
      (dstOk nt d = true ∧
        if isFnCall op then callS (opCall P (oval e) op) fun f args => exX P H f args (holdQ (fun v H' => wpW P nt ops H0 m rest (putDst e d (some v)) H' K) ⟨⟩)
        else resS (execN P (oval e) (rdH op H0 H) op) (holdQ (fun v H' => wpW P nt ops H0 m rest (putDst e d v) (bkH op H H') K) ⟨⟩)) := by
  simp only [wpW, wantedA, wantS, holdQ]
  simp
end

/-! ### The first m operations write nothing but new rows; the others are in order, behind all before them -/
section
variable {P : Program} {nt : Nat} {ops : Array Oper} {e : Env} {H H0 : AH}
def tailS (m : Nat) (ops : Array Oper) : Bool :=
  ordOK ops && ((ops.toList.take m).all fun o => !isW o.op || allocK o.op) && (List.range ops.size).all fun k => decide (k < m) || (List.range k).all fun i => anc (masks ops.toList []) k i
def wpM (P : Program) (nt : Nat) (ops : Array Oper) (H0 : AH) : Nat → List Oper → Env → AH → (Env → AH → Prop) → Prop
  | 0, l, e, H, K => wpO P nt ops l e H K
  | _ + 1, [], _, _, _ => False
  | m + 1, o :: rest, e, H, K =>
    wantS (wantedA ops e o)
      (dstOk nt o.dst = true ∧ resS (execN P (oval e) (rdH o.op H0 H) o.op) fun v H' => wpM P nt ops H0 m rest (putDst e o.dst v) (bkH o.op H H') K)
      (wpM P nt ops H0 m rest (putDst e o.dst none) H K)
@[congr] theorem c_wpM {m : Nat} {l : List Oper} {e e' : Env} {H H' : AH} {K : Env → AH → Prop} (h : e = e') (h' : H = H') : wpM P nt ops H0 m l e H K = wpM P nt ops H0 m l e' H' K := by rw [h, h']
@[simp] theorem m_zero (l : List Oper) (K : Env → AH → Prop) : wpM P nt ops H0 0 l e H K = wpO P nt ops l e H K := by cases l <;> rfl
@[simp] theorem m_consN (m : Nat) (d : Option Tmp) (op : Op) (t : TypeId) (p : String) (af : Array Edge) (rest : List Oper) (K : Env → AH → Prop) : wpM P nt ops H0 (m + 1) (⟨d, op, t, p, af, none⟩ :: rest) e H K =
      (dstOk nt d = true ∧ resS (execN P (oval e) (rdH op H0 H) op) (holdQ (fun v H' => wpM P nt ops H0 m rest (putDst e d v) (bkH op H H') K) ⟨⟩)) := by
  simp only [wpM, wantedA, wantS, holdQ]
  simp
end
end Go.Proofs.YtengokpphglodaaDoor.AX

/- A plain reading of runs: a scope that is left without a jump. -/
namespace Go.Proofs.YtengokpphglodaaDoor.AX
open Go Go.RowKit

section
variable {F : Fence} {n : Nat} {P : Program} {Q : Exit → Act → World → Prop} {a : Act} {w : World}
end
section
variable {P : Program} {nt : Nat} {e : Env} {H : AH}
/-- No jump is left. -/
def NoJump (Q : Ex → Env → AH → Prop) : Ex → Env → AH → Prop
  | .goto _, _, _ => False
  | x, e, H => Q x e H
end
end Go.Proofs.YtengokpphglodaaDoor.AX

/- A plain reading of runs: elements are struck from a slice, in its own row. -/
namespace Go.Proofs.YtengokpphglodaaDoor.AX
open Go Go.RowKit

section
variable {P : Program} {H : AH}
def clrV : Option AH → Option (Option AV × AH)
  | some H => some (some (.tuple []), H)
  | none => none
@[simp] theorem s_clrV (H : AH) : clrV (some H) = some (some (.tuple []), H) := rfl
@[simp] theorem s_isc_clear (as : Array Operand) (ts : Array TypeId) : isFnCall (.call ⟨.builtin .clear, as, ts⟩) = false := rfl
@[simp] theorem x_clear {ρ : Operand → AV} (x : Operand) (t : TypeId) : execN P ρ H (.call ⟨.builtin .clear, #[x], #[t]⟩) = clrV (aClear P H t (ρ x)) := by
  have : execN P ρ H (.call ⟨.builtin .clear, #[x], #[t]⟩) = (aClear P H t (ρ x)).map fun H' => (some (.tuple []), H') := rfl
  rw [this]
  cases aClear P H t (ρ x) <;> rfl

/-- A slice of the call's own, of one cell each; its row, behind the first N, may have more cells. -/
def OwnT (N : Nat) (H : AH) (v : AV) (l : List AV) : Prop :=
  ∃ r ver stale tl, N ≤ r ∧ v = .slice (some r) 0 l.length ver 1 false ∧ H[r]? = some (.row (l ++ tl) ver stale false) ∧ ∀ x ∈ l ++ tl, x.one = true
theorem OwnT.ext {N : Nat} {H1 : AH} {v : AV} {l : List AV} (h : OwnT N H v l) (hE : Ext H H1) : OwnT N H1 v l := by
  obtain ⟨r, ver, stale, tl, h1, h2, h3, h4⟩ := h
  exact ⟨r, ver, stale, tl, h1, h2, hE.row h3, h4⟩
theorem OwnT.ls {N : Nat} {v : AV} {l : List Int} (h : OwnT N H v (l.map (.int .i64))) : Ls H v l := by
  obtain ⟨r, ver, stale, tl, -, rfl, h3, -⟩ := h
  refine ⟨some r, 0, ver, 1, false, by simp, fun i hi => ⟨r, rfl, rfl, ?_⟩⟩
  rw [ld_row h3, Nat.zero_add, List.getElem?_append_left (by simpa using hi)]
  simp [hi]
theorem OwnF.more {N : Nat} {v : AV} {l : List AV} (h : OwnF N H v l) (hne : l ≠ []) (h1 : ∀ x ∈ l, x.one = true) : OwnT N H v l := by
  rcases h with ⟨h, -⟩ | ⟨r, ver, stale, g1, g2, g3⟩
  · exact absurd h hne
  · exact ⟨r, ver, stale, [], g1, g2, by simpa using g3, by simpa using h1⟩

theorem OwnF.mono {N M : Nat} {v : AV} {l : List AV} (h : OwnF N H v l) (hM : M ≤ N) : OwnF M H v l := by
  rcases h with h | ⟨r, ver, stale, h1, h2, h3⟩
  · exact .inl h
  · exact .inr ⟨r, ver, stale, by omega, h2, h3⟩
end
end Go.Proofs.YtengokpphglodaaDoor.AX

/- A plain reading of runs: stepping through a statement whose order is open, whose first operations leave what was there before. -/
namespace Go.Proofs.YtengokpphglodaaDoor.AX
open Go Go.RowKit

section
variable {P : Program} {nt : Nat} {ops : Array Oper} {e : Env} {H H0 : AH}
/-- What was there before is as it was, after a writing. -/
def extO (o : Op) (H0 H' : AH) : Prop := isW o = true → Ext H0 H'
/-- The first m operations leave what was there before, and what they read lay there before; the others are in order with what they touch. -/
def wpV (P : Program) (nt : Nat) (ops : Array Oper) (H0 : AH) : Nat → List Oper → Env → AH → (Env → AH → Prop) → Prop
  | 0, l, e, H, K => wpT P nt ops l e H K
  | _ + 1, [], e, H, K => K e H
  | m + 1, o :: rest, e, H, K =>
    wantS (wantedA ops e o)
      (dstOk nt o.dst = true ∧
        if isFnCall o.op then callS (opCall P (oval e) o.op) fun f args => exX P H f args fun v H' => wpV P nt ops H0 m rest (putDst e o.dst (some v)) H' K
        else resS (execN P (oval e) (rdH o.op H0 H) o.op) fun v H' => extO o.op H0 H' ∧ wpV P nt ops H0 m rest (putDst e o.dst v) (bkH o.op H H') K)
      (wpV P nt ops H0 m rest (putDst e o.dst none) H K)
/-- Reads and writings that are in no order are among the first m operations. -/
def partV (m : Nat) (ops : Array Oper) : Bool :=
  ordOK ops && (let ms := masks ops.toList []; ops.toList.zipIdx.all fun x => !isR x.1.op || ops.toList.zipIdx.all fun y => !isW y.1.op || anc ms x.2 y.2 || anc ms y.2 x.2 || (decide (x.2 < m) && decide (y.2 < m)))
@[congr] theorem c_wpVx {m : Nat} {l : List Oper} {e e' : Env} {H H' : AH} {K : Env → AH → Prop} (h : e = e') (h' : H = H') : wpV P nt ops H0 m l e H K = wpV P nt ops H0 m l e' H' K := by rw [h, h']
@[simp] theorem wv_zero (l : List Oper) (K : Env → AH → Prop) : wpV P nt ops H0 0 l e H K = wpT P nt ops l e H K := by cases l <;> rfl
@[simp] theorem wv_consN (m : Nat) (d : Option Tmp) (op : Op) (t : TypeId) (p : String) (af : Array Edge) (rest : List Oper) (K : Env → AH → Prop) : wpV P nt ops H0 (m + 1) (⟨d, op, t, p, af, none⟩ :: rest) e H K =
      (dstOk nt d = true ∧
        if isFnCall op then callS (opCall P (oval e) op) fun f args => exX P H f args (holdQ (fun v H' => wpV P nt ops H0 m rest (putDst e d (some v)) H' K) ⟨⟩)
        else resS (execN P (oval e) (rdH op H0 H) op) (holdQ (fun v H' => extO op H0 H' ∧ wpV P nt ops H0 m rest (putDst e d v) (bkH op H H') K) ⟨⟩)) := by
  simp only [wpV, wantedA, wantS, holdQ]
  simp
/-- Operations that leave what was there before; the marked ones read what lay there before. -/
def wpU (P : Program) (nt : Nat) (ops : Array Oper) (H0 : AH) : List Bool → List Oper → Env → AH → (Env → AH → Prop) → Prop
  | [], l, e, H, K => wpT P nt ops l e H K
  | _ :: _, [], e, H, K => K e H
  | b :: ms, o :: rest, e, H, K =>
    wantS (wantedA ops e o)
      (dstOk nt o.dst = true ∧
        if isFnCall o.op then callS (opCall P (oval e) o.op) fun f args => exX P H f args fun v H' => wpU P nt ops H0 ms rest (putDst e o.dst (some v)) H' K
        else if b then resS (execN P (oval e) H0 o.op) fun v _ => wpU P nt ops H0 ms rest (putDst e o.dst v) H K
        else resS (execN P (oval e) H o.op) fun v H' => extO o.op H0 H' ∧ wpU P nt ops H0 ms rest (putDst e o.dst v) H' K)
      (wpU P nt ops H0 ms rest (putDst e o.dst none) H K)
/-- Reads that are in no order with a writing are marked, and the writing is among the first ones. -/
def markS (ms : List Bool) (ops : Array Oper) : Bool :=
  ordOK ops && (let mk := masks ops.toList []; ops.toList.zipIdx.all fun x => !isR x.1.op || ops.toList.zipIdx.all fun y => !isW y.1.op || anc mk x.2 y.2 || anc mk y.2 x.2 || ((ms[x.2]?).getD false && decide (x.2 < ms.length) && decide (y.2 < ms.length))) &&
    ops.toList.zipIdx.all fun z => !((ms[z.2]?).getD false) || isR z.1.op
@[congr] theorem c_wpU {ms : List Bool} {l : List Oper} {e e' : Env} {H H' : AH} {K : Env → AH → Prop} (h : e = e') (h' : H = H') : wpU P nt ops H0 ms l e H K = wpU P nt ops H0 ms l e' H' K := by rw [h, h']
@[simp] theorem wu_nil (l : List Oper) (K : Env → AH → Prop) : wpU P nt ops H0 [] l e H K = wpT P nt ops l e H K := by cases l <;> rfl
@[simp] theorem wu_end (ms : List Bool) (K : Env → AH → Prop) : wpU P nt ops H0 ms [] e H K = K e H := by cases ms <;> rfl
@[simp] theorem wu_consN (b : Bool) (ms : List Bool) (d : Option Tmp) (op : Op) (t : TypeId) (p : String) (af : Array Edge) (rest : List Oper) (K : Env → AH → Prop) : wpU P nt ops H0 (b :: ms) (⟨d, op, t, p, af, none⟩ :: rest) e H K =
      (dstOk nt d = true ∧
        if isFnCall op then callS (opCall P (oval e) op) fun f args => exX P H f args (holdQ (fun v H' => wpU P nt ops H0 ms rest (putDst e d (some v)) H' K) ⟨⟩)
        else if b then resS (execN P (oval e) H0 op) (holdQ (fun v _ => wpU P nt ops H0 ms rest (putDst e d v) H K) ⟨⟩)
        else resS (execN P (oval e) H op) (holdQ (fun v H' => extO op H0 H' ∧ wpU P nt ops H0 ms rest (putDst e d v) H' K) ⟨⟩)) := by
  simp only [wpU, wantedA, wantS, holdQ]
  simp
@[simp] theorem extO_load (t : TypeId) (x : Operand) : extO (.load t x) H0 H = True := eq_true fun h => by simp [isW] at h
@[simp] theorem extO_move (x : Operand) : extO (.move x) H0 H = True := eq_true fun h => by simp [isW] at h
@[simp] theorem extO_binOp (o : BinOp) (t u : TypeId) (x y : Operand) : extO (.binOp o t x y u) H0 H = True := eq_true fun h => by simp [isW] at h
@[simp] theorem extO_unOp (o : UnOp) (t : TypeId) (x : Operand) : extO (.unOp o t x) H0 H = True := eq_true fun h => by simp [isW] at h
@[simp] theorem extO_convert (a b : TypeId) (x : Operand) : extO (.convert a b x) H0 H = True := eq_true fun h => by simp [isW] at h
@[simp] theorem extO_pick (x y z : Operand) : extO (.pick x y z) H0 H = True := eq_true fun h => by simp [isW] at h
@[simp] theorem extO_fieldAddr (t : TypeId) (x : Operand) (f : Nat) : extO (.fieldAddr t x f) H0 H = True := eq_true fun h => by simp [isW] at h
@[simp] theorem extO_field (t : TypeId) (x : Operand) (f : Nat) : extO (.field t x f) H0 H = True := eq_true fun h => by simp [isW] at h
@[simp] theorem extO_indexAddr (t : TypeId) (x i : Operand) : extO (.indexAddr t x i) H0 H = True := eq_true fun h => by simp [isW] at h
@[simp] theorem extO_index (t : TypeId) (x i : Operand) : extO (.index t x i) H0 H = True := eq_true fun h => by simp [isW] at h
@[simp] theorem extO_extract (x : Operand) (i : Nat) : extO (.extract x i) H0 H = True := eq_true fun h => by simp [isW] at h
@[simp] theorem extO_assign (x : Operand) : extO (.assign x) H0 H = True := eq_true fun h => by simp [isW] at h
@[simp] theorem extO_build (t : TypeId) (ps : Array (Nat × Operand)) : extO (.build t ps) H0 H = True := eq_true fun h => by simp [isW] at h
@[simp] theorem extO_makeFunc (f : Fn) (a b : Array Operand) : extO (.makeFunc f a b) H0 H = True := eq_true fun h => by simp [isW] at h
@[simp] theorem rd_store (t : TypeId) (x y : Operand) : rdH (.store t x y) H0 H = H := rfl
@[simp] theorem bk_store (t : TypeId) (x y : Operand) : bkH (.store t x y) H H0 = H0 := rfl
@[simp] theorem extO_store (t : TypeId) (x y : Operand) : extO (.store t x y) H0 H = Ext H0 H := propext ⟨fun h => h rfl, fun h _ => h⟩
@[simp] theorem extO_alloc (t : TypeId) : extO (.alloc t) H0 H = Ext H0 H := propext ⟨fun h => h rfl, fun h _ => h⟩
@[simp] theorem extO_buildSlice (t : TypeId) (n : Nat) (ps : Array (Nat × Operand)) : extO (.buildSlice t n ps) H0 H = Ext H0 H := propext ⟨fun h => h rfl, fun h _ => h⟩
@[simp] theorem extO_call (c : Go.Call) : extO (.call c) H0 H = (isW (.call c) = true → Ext H0 H) := rfl
end
end Go.Proofs.YtengokpphglodaaDoor.AX

/- A plain reading of runs: stepping through a statement whose order is open, whose loads are from other rows than those that are written. -/
namespace Go.Proofs.YtengokpphglodaaDoor.AX
open Go Go.RowKit

/-- All old rows but some are as they were. -/
def KeepS (S : List Nat) (H H' : AH) : Prop := H.length ≤ H'.length ∧ ∀ j : Nat, j ∉ S → j < H.length → H'[j]? = H[j]?
theorem KeepS.refl (S : List Nat) (H : AH) : KeepS S H H := ⟨Nat.le_refl _, fun _ _ _ => rfl⟩
theorem KeepS.ext {S : List Nat} {A B C : AH} (h : KeepS S A B) (k : Ext B C) : KeepS S A C := ⟨Nat.le_trans h.1 k.1, fun j h1 h2 => by rw [k.2 j (by have := h.1; omega), h.2 j h1 h2]⟩
theorem KeepS.set {S : List Nat} {A B : AH} (h : KeepS S A B) {r : Nat} (hr : r ∈ S) (o : AObj) : KeepS S A (B.set r o) := ⟨by simpa using h.1, fun j h1 h2 => by rw [List.getElem?_set_ne (fun e => h1 (by rw [← e]; exact hr)), h.2 j h1 h2]⟩
theorem loadV_keep {P : Program} {t : TypeId} {S : List Nat} {H H1 : AH} {r off ver : Nat} {v : AV} (hr : r ∉ S) (hK : KeepS S H H1) (h : loadV P t H (.ptr r off ver) = some v) : loadV P t H1 (.ptr r off ver) = some v := by
  by_cases hlt : r < H.length
  · have heq := hK.2 r hr hlt
    have h1 : ∀ n, ldn H1 r ver n off = ldn H r ver n off := fun n => by cases n <;> simp [ldn, heq]
    have h2 : ld H1 r off ver = ld H r off ver := by simp [ld, heq]
    have e : loadV P t H1 (.ptr r off ver) = loadV P t H (.ptr r off ver) := by
      unfold loadV
      cases P.underlying t <;> cases P.info? t <;> simp [h1, h2]
    rw [e]; exact h
  · have hn : H[r]? = none := List.getElem?_eq_none (by omega)
    unfold loadV at h ⊢
    cases hd : P.underlying t with
    | none => rw [hd] at h; simp at h
    | some d =>
      cases hi : P.info? t with
      | none => rw [hd, hi] at h; simp at h
      | some I =>
        rw [hd, hi] at h
        simp only at h ⊢
        by_cases ha : isAggD d = true
        · rw [if_pos ha] at h ⊢
          cases hs : I.size with
          | zero => rw [hs] at h; simpa [ldn] using h
          | succ n => rw [hs] at h; simp [ldn, hn] at h
        · rw [if_neg ha] at h
          simp [ld, hn] at h
/-- A load from another row. -/
def ldP (P : Program) (S : List Nat) (t : TypeId) (H0 : AH) (v : AV) : Option AV := match v with
  | .ptr r off ver => if r ∈ S then none else loadV P t H0 (.ptr r off ver)
  | _ => none
def ldS (P : Program) (S : List Nat) (H0 : AH) (ρ : Operand → AV) (op : Op) : Option AV := match op with
  | .load t x => ldP P S t H0 (ρ x)
  | _ => none
@[simp] theorem ldS_load {P : Program} {S : List Nat} {H0 : AH} {ρ : Operand → AV} (t : TypeId) (x : Operand) : ldS P S H0 ρ (.load t x) = ldP P S t H0 (ρ x) := rfl
@[simp] theorem ldP_ptr {P : Program} {S : List Nat} {H0 : AH} (t : TypeId) (r off ver : Nat) : ldP P S t H0 (.ptr r off ver) = if r ∈ S then none else loadV P t H0 (.ptr r off ver) := rfl
theorem ldS_exec {P : Program} {S : List Nat} {H0 H1 : AH} {ρ : Operand → AV} {op : Op} {v : AV} (hK : KeepS S H0 H1) (h : ldS P S H0 ρ op = some v) : execN P ρ H1 op = some (some v, H1) := by
  unfold ldS at h
  split at h
  case h_2 => cases h
  rename_i t x
  unfold ldP at h
  split at h
  case h_2 => cases h
  rename_i r off ver hx
  split at h
  · cases h
  · rename_i hr
    rw [x_load, hx, loadV_keep hr hK h]; rfl
def keepO (S : List Nat) (o : Op) (H0 H' : AH) : Prop := isW o = true → KeepS S H0 H'
section
variable {P : Program} {nt : Nat} {ops : Array Oper} {e : Env} {H H0 : AH} {S : List Nat}
/-- Operations that leave all old rows but some as they were; the marked ones are loads from other rows. -/
def wpS (P : Program) (nt : Nat) (ops : Array Oper) (S : List Nat) (H0 : AH) : List Bool → List Oper → Env → AH → (Env → AH → Prop) → Prop
  | [], l, e, H, K => wpT P nt ops l e H K
  | _ :: _, [], e, H, K => K e H
  | b :: ms, o :: rest, e, H, K =>
    wantS (wantedA ops e o)
      (dstOk nt o.dst = true ∧
        if isFnCall o.op then callS (opCall P (oval e) o.op) fun f args => exX P H f args fun v H' => wpS P nt ops S H0 ms rest (putDst e o.dst (some v)) H' K
        else if b then resS (val1 H0 (ldS P S H0 (oval e) o.op)) fun v _ => wpS P nt ops S H0 ms rest (putDst e o.dst v) H K
        else resS (execN P (oval e) H o.op) fun v H' => keepO S o.op H0 H' ∧ wpS P nt ops S H0 ms rest (putDst e o.dst v) H' K)
      (wpS P nt ops S H0 ms rest (putDst e o.dst none) H K)
/-- Reads that are in no order with a writing are marked, and the writing is among the first ones. -/
def markT (ms : List Bool) (ops : Array Oper) : Bool :=
  ordOK ops && (let mk := masks ops.toList []; ops.toList.zipIdx.all fun x => !isR x.1.op || ops.toList.zipIdx.all fun y => !isW y.1.op || anc mk x.2 y.2 || anc mk y.2 x.2 || ((ms[x.2]?).getD false && decide (x.2 < ms.length) && decide (y.2 < ms.length))) &&
    ops.toList.zipIdx.all fun z => !((ms[z.2]?).getD false) || isR z.1.op
@[congr] theorem c_wpS {ms : List Bool} {l : List Oper} {e e' : Env} {H H' : AH} {K : Env → AH → Prop} (h : e = e') (h' : H = H') : wpS P nt ops S H0 ms l e H K = wpS P nt ops S H0 ms l e' H' K := by rw [h, h']
@[simp] theorem ws_nil (l : List Oper) (K : Env → AH → Prop) : wpS P nt ops S H0 [] l e H K = wpT P nt ops l e H K := by cases l <;> rfl
@[simp] theorem ws_end (ms : List Bool) (K : Env → AH → Prop) : wpS P nt ops S H0 ms [] e H K = K e H := by cases ms <;> rfl
@[simp] theorem ws_consN (b : Bool) (ms : List Bool) (d : Option Tmp) (op : Op) (t : TypeId) (p : String) (af : Array Edge) (rest : List Oper) (K : Env → AH → Prop) : wpS P nt ops S H0 (b :: ms) (⟨d, op, t, p, af, none⟩ :: rest) e H K =
      (dstOk nt d = true ∧
        if isFnCall op then callS (opCall P (oval e) op) fun f args => exX P H f args (holdQ (fun v H' => wpS P nt ops S H0 ms rest (putDst e d (some v)) H' K) ⟨⟩)
        else if b then resS (val1 H0 (ldS P S H0 (oval e) op)) (holdQ (fun v _ => wpS P nt ops S H0 ms rest (putDst e d v) H K) ⟨⟩)
        else resS (execN P (oval e) H op) (holdQ (fun v H' => keepO S op H0 H' ∧ wpS P nt ops S H0 ms rest (putDst e d v) H' K) ⟨⟩)) := by
  simp only [wpS, wantedA, wantS, holdQ]
  simp
@[simp] theorem ko_load {S : List Nat} (t : TypeId) (x : Operand) : keepO S (.load t x) H0 H = True := eq_true fun h => by simp [isW] at h
@[simp] theorem ko_move {S : List Nat} (x : Operand) : keepO S (.move x) H0 H = True := eq_true fun h => by simp [isW] at h
@[simp] theorem ko_binOp {S : List Nat} (o : BinOp) (t u : TypeId) (x y : Operand) : keepO S (.binOp o t x y u) H0 H = True := eq_true fun h => by simp [isW] at h
@[simp] theorem ko_unOp {S : List Nat} (o : UnOp) (t : TypeId) (x : Operand) : keepO S (.unOp o t x) H0 H = True := eq_true fun h => by simp [isW] at h
@[simp] theorem ko_convert {S : List Nat} (a b : TypeId) (x : Operand) : keepO S (.convert a b x) H0 H = True := eq_true fun h => by simp [isW] at h
@[simp] theorem ko_pick {S : List Nat} (x y z : Operand) : keepO S (.pick x y z) H0 H = True := eq_true fun h => by simp [isW] at h
@[simp] theorem ko_fieldAddr {S : List Nat} (t : TypeId) (x : Operand) (f : Nat) : keepO S (.fieldAddr t x f) H0 H = True := eq_true fun h => by simp [isW] at h
@[simp] theorem ko_field {S : List Nat} (t : TypeId) (x : Operand) (f : Nat) : keepO S (.field t x f) H0 H = True := eq_true fun h => by simp [isW] at h
@[simp] theorem ko_indexAddr {S : List Nat} (t : TypeId) (x i : Operand) : keepO S (.indexAddr t x i) H0 H = True := eq_true fun h => by simp [isW] at h
@[simp] theorem ko_index {S : List Nat} (t : TypeId) (x i : Operand) : keepO S (.index t x i) H0 H = True := eq_true fun h => by simp [isW] at h
@[simp] theorem ko_extract {S : List Nat} (x : Operand) (i : Nat) : keepO S (.extract x i) H0 H = True := eq_true fun h => by simp [isW] at h
@[simp] theorem ko_assign {S : List Nat} (x : Operand) : keepO S (.assign x) H0 H = True := eq_true fun h => by simp [isW] at h
@[simp] theorem ko_build {S : List Nat} (t : TypeId) (ps : Array (Nat × Operand)) : keepO S (.build t ps) H0 H = True := eq_true fun h => by simp [isW] at h
@[simp] theorem ko_makeFunc {S : List Nat} (f : Fn) (a b : Array Operand) : keepO S (.makeFunc f a b) H0 H = True := eq_true fun h => by simp [isW] at h
@[simp] theorem ko_store {S : List Nat} (t : TypeId) (x y : Operand) : keepO S (.store t x y) H0 H = KeepS S H0 H := propext ⟨fun h => h rfl, fun h _ => h⟩
@[simp] theorem ko_alloc {S : List Nat} (t : TypeId) : keepO S (.alloc t) H0 H = KeepS S H0 H := propext ⟨fun h => h rfl, fun h _ => h⟩
@[simp] theorem ko_buildSlice {S : List Nat} (t : TypeId) (n : Nat) (ps : Array (Nat × Operand)) : keepO S (.buildSlice t n ps) H0 H = KeepS S H0 H := propext ⟨fun h => h rfl, fun h _ => h⟩
@[simp] theorem ko_call {S : List Nat} (c : Go.Call) : keepO S (.call c) H0 H = (isW (.call c) = true → KeepS S H0 H) := rfl
end
end Go.Proofs.YtengokpphglodaaDoor.AX

/- A plain reading of runs: stepping through a statement whose order is open, whose loads stand beside calls, and beside stores to other rows. -/
namespace Go.Proofs.YtengokpphglodaaDoor.AX
open Go Go.RowKit
section
variable {P : Program} {nt : Nat} {ops : Array Oper} {e : Env} {H H0 : AH} {S : List Nat}
/-- First operations that leave all old rows as they were, then some that leave all old rows but S. A mark 1 is a load beside the first ones, a mark 2 one beside all of them. -/
def wpZ (P : Program) (nt : Nat) (ops : Array Oper) (S : List Nat) (H0 : AH) (ms1 : List Bool) : List Nat → List Oper → Env → AH → (Env → AH → Prop) → Prop
  | [], l, e, H, K => wpS P nt ops S H0 ms1 l e H K
  | _ :: _, [], e, H, K => K e H
  | b :: ms, o :: rest, e, H, K =>
    wantS (wantedA ops e o)
      (dstOk nt o.dst = true ∧
        if isFnCall o.op then callS (opCall P (oval e) o.op) fun f args => exX P H f args fun v H' => wpZ P nt ops S H0 ms1 ms rest (putDst e o.dst (some v)) H' K
        else if b = 0 then resS (execN P (oval e) H o.op) fun v H' => keepO [] o.op H0 H' ∧ wpZ P nt ops S H0 ms1 ms rest (putDst e o.dst v) H' K
        else resS (val1 H0 (ldS P (if b = 1 then [] else S) H0 (oval e) o.op)) fun v _ => wpZ P nt ops S H0 ms1 ms rest (putDst e o.dst v) H K)
      (wpZ P nt ops S H0 ms1 ms rest (putDst e o.dst none) H K)
/-- What is known of a record of such a run. -/
def ZRec (P : Program) (ops : Array Oper) (S : List Nat) (H0 : AH) (ms : List Nat) (ms1 : List Bool) (i : Nat) (o : Oper) (r : Rec) : Prop :=
  (i < ms.length → KeepS [] H0 r.H ∧ KeepS [] H0 r.H') ∧ (i < ms.length + ms1.length → KeepS S H0 r.H ∧ KeepS S H0 r.H') ∧
  (ms[i]? = some 1 → wantedA ops r.e o = some true → ∀ H1, KeepS [] H0 H1 → execN P (oval r.e) H1 o.op = some (r.v, H1)) ∧
  ((∃ m, ms[i]? = some (m + 2)) ∨ (ms.length ≤ i ∧ ms1[i - ms.length]? = some true) → wantedA ops r.e o = some true → ∀ H1, KeepS S H0 H1 → execN P (oval r.e) H1 o.op = some (r.v, H1))
/-- A load's mark: 1 or more. -/
def zMark (ms : List Nat) (ms1 : List Bool) (i : Nat) : Nat := if i < ms.length then (ms[i]?).getD 0 else if (ms1[i - ms.length]?).getD false then 2 else 0
def markZ (ms : List Nat) (ms1 : List Bool) (ops : Array Oper) : Bool :=
  ordOK ops && (let mk := masks ops.toList []; ops.toList.zipIdx.all fun x => !isR x.1.op || ops.toList.zipIdx.all fun y => !isW y.1.op || anc mk x.2 y.2 || anc mk y.2 x.2 ||
    (decide (zMark ms ms1 x.2 = 1) && decide (x.2 < ms.length) && decide (y.2 < ms.length)) || (decide (2 ≤ zMark ms ms1 x.2) && decide (x.2 < ms.length + ms1.length) && decide (y.2 < ms.length + ms1.length))) &&
    ops.toList.zipIdx.all fun z => decide (zMark ms ms1 z.2 = 0) || isR z.1.op
@[congr] theorem c_wpZ {ms1 : List Bool} {ms : List Nat} {l : List Oper} {e e' : Env} {H H' : AH} {K : Env → AH → Prop} (h : e = e') (h' : H = H') : wpZ P nt ops S H0 ms1 ms l e H K = wpZ P nt ops S H0 ms1 ms l e' H' K := by rw [h, h']
@[simp] theorem wz_nil (ms1 : List Bool) (l : List Oper) (K : Env → AH → Prop) : wpZ P nt ops S H0 ms1 [] l e H K = wpS P nt ops S H0 ms1 l e H K := by cases l <;> rfl
@[simp] theorem wz_consN (ms1 : List Bool) (b : Nat) (ms : List Nat) (d : Option Tmp) (op : Op) (t : TypeId) (p : String) (af : Array Edge) (rest : List Oper) (K : Env → AH → Prop) : wpZ P nt ops S H0 ms1 (b :: ms) (⟨d, op, t, p, af, none⟩ :: rest) e H K =
      (dstOk nt d = true ∧
        if isFnCall op then callS (opCall P (oval e) op) fun f args => exX P H f args (holdQ (fun v H' => wpZ P nt ops S H0 ms1 ms rest (putDst e d (some v)) H' K) ⟨⟩)
        else if b = 0 then resS (execN P (oval e) H op) (holdQ (fun v H' => keepO [] op H0 H' ∧ wpZ P nt ops S H0 ms1 ms rest (putDst e d v) H' K) ⟨⟩)
        else resS (val1 H0 (ldS P (if b = 1 then [] else S) H0 (oval e) op)) (holdQ (fun v _ => wpZ P nt ops S H0 ms1 ms rest (putDst e d v) H K) ⟨⟩)) := by
  simp only [wpZ, wantedA, wantS, holdQ]
  simp
end
end Go.Proofs.YtengokpphglodaaDoor.AX

/- A plain reading of runs: a statement whose order is open, two of whose operations write in no order: both orders are read. -/
namespace Go.Proofs.YtengokpphglodaaDoor.AX
open Go Go.RowKit

/-- A list of operations as they may come. -/
def ValidL (ops : Array Oper) : Array Bool → List Nat → Prop
  | listed, [] => Region.ready .any ops listed = []
  | listed, k :: L => k ∈ Region.ready .any ops listed ∧ ValidL ops (listed.setIfInBounds k true) L
section
variable {F : Fence} {n : Nat} {P : Program} {ops : Array Oper} {Q : Exit → Act → World → Prop}
/-- The same operation, but for what it waits for. -/
def sameO (o o' : Oper) : Prop := o'.dst = o.dst ∧ o'.op = o.op ∧ o'.type = o.type ∧ o'.pos = o.pos ∧ o.guard = none ∧ o'.guard = none
/-- y waits for x, the operations stand in another order. -/
structure Moved (ops ops2 : Array Oper) (f g : Nat → Nat) (x y : Nat) : Prop where
  size : ops2.size = ops.size
  fg : ∀ k, k < ops.size → f k < ops.size ∧ g (f k) = k
  gf : ∀ k, k < ops.size → g k < ops.size ∧ f (g k) = k
  op : ∀ (k : Nat) (o : Oper), ops[k]? = some o → ∃ o', ops2[f k]? = some o' ∧ sameO o o' ∧ (∀ e' ∈ o'.after, Region.binds .any e' = true → (k = y ∧ e'.on = f x) ∨ ∃ e ∈ o.after, Region.binds .any e = true ∧ e'.on = f e.on) ∧
    (∀ e ∈ o.after, Region.binds .any e = true → e.on < ops.size ∧ ∃ e' ∈ o'.after, Region.binds .any e' = true ∧ e'.on = f e.on)
theorem Moved.ready {ops2 : Array Oper} {f g : Nat → Nat} {x y : Nat} (M : Moved ops ops2 f g x y) {listed listed2 : Array Bool} (hs : listed.size = ops.size) (hs2 : listed2.size = ops.size) (hl : ∀ k, k < ops.size → listed2.getD (f k) false = listed.getD k false) {k : Nat}
    (hk : k ∈ Region.ready .any ops listed) (hx : k = y → listed.getD x false = true) (hxl : x < ops.size) : f k ∈ Region.ready .any ops2 listed2 := by
  rw [mem_ready] at hk ⊢
  obtain ⟨h1, o, ho, h2⟩ := hk
  have hlt : k < ops.size := (Array.getElem?_eq_some_iff.1 ho).1
  obtain ⟨o', ho', -, h3, -⟩ := M.op k o ho
  have hf := M.fg k hlt
  refine ⟨?_, o', ho', fun e' he' hb => ?_⟩
  · have h4 := hl k hlt
    have h5 : k < listed.size := by omega
    have h6 : f k < listed2.size := by omega
    simp [h5, h6] at h1 h4 ⊢
    rw [h4]; exact h1
  · rcases h3 e' he' hb with ⟨rfl, e1⟩ | ⟨e, he, hb2, e1⟩
    · rw [e1, hl x hxl]; exact hx rfl
    · have h4 := h2 e he hb2
      have hon : e.on < ops.size := by
        rcases Nat.lt_or_ge e.on ops.size with h | h
        · exact h
        · have : listed.getD e.on false = false := by simp [show ¬ e.on < listed.size by omega]
          rw [this] at h4; cases h4
      rw [e1, hl _ hon]; exact h4
theorem Moved.back {ops2 : Array Oper} {f g : Nat → Nat} {x y : Nat} (M : Moved ops ops2 f g x y) {listed listed2 : Array Bool} (hs : listed.size = ops.size) (hs2 : listed2.size = ops.size) (hl : ∀ k, k < ops.size → listed2.getD (f k) false = listed.getD k false) {p : Nat}
    (hp : p ∈ Region.ready .any ops2 listed2) : g p ∈ Region.ready .any ops listed := by
  rw [mem_ready] at hp ⊢
  obtain ⟨h1, o', ho', h2⟩ := hp
  have hlt : p < ops.size := by rw [← M.size]; exact (Array.getElem?_eq_some_iff.1 ho').1
  have hg := M.gf p hlt
  have hk : ops[g p]? = some ops[g p] := Array.getElem?_eq_getElem hg.1
  obtain ⟨o2, ho2, -, -, h3⟩ := M.op _ _ hk
  rw [hg.2, ho'] at ho2
  cases ho2
  refine ⟨?_, _, hk, fun e he hb => ?_⟩
  · have h4 := hl (g p) hg.1
    rw [hg.2] at h4
    have h5 : g p < listed.size := by omega
    have h6 : p < listed2.size := by omega
    simp [h5, h6] at h1 h4 ⊢
    rw [← h4]; exact h1
  · obtain ⟨h4, e', he', hb', e1⟩ := h3 e he hb
    have := h2 e' he' hb'
    rw [e1, hl _ h4] at this
    exact this
/-- x stands ahead of y. -/
def Ahead (x y : Nat) (L : List Nat) : Prop := ∀ L1 L2, L = L1 ++ y :: L2 → x ∈ L1
end

/-! ### How the text is changed -/
/-- An operation that waits for one more. -/
def waitO (x : Nat) : Oper → Oper
  | ⟨d, op, t, p, af, gd⟩ => ⟨d, op, t, p, af.push ⟨x, .data⟩, gd⟩
/-- An operation among others: whom it waits for stands elsewhere. -/
def mapO (f : Nat → Nat) : Oper → Oper
  | ⟨d, op, t, p, af, gd⟩ => ⟨d, op, t, p, af.map fun e => ⟨f e.on, e.ground⟩, gd⟩
def addE (x y : Nat) (l : List Oper) : List Oper := l.mapIdx fun k o => if k = y then waitO x o else o
def permL (ord : List Nat) (l : List Oper) : List Oper := ord.map fun k => mapO (fun j => ord.idxOf j) ((l[k]?).getD default)
def quietO (l : List Oper) : Bool := l.all fun o => o.guard.isNone && o.after.all fun e => decide (e.on < l.length)
def permOK (ord : List Nat) (m : Nat) : Bool := Nat.beq ord.length m && (List.range m).all (fun k => decide (ord.idxOf k < m) && (ord[ord.idxOf k]? == some k)) && (List.range m).all fun p => match ord[p]? with | some k => decide (k < m) && Nat.beq (ord.idxOf k) p | none => false
@[simp] theorem waitO_mk (x : Nat) (d : Option Tmp) (op : Op) (t : TypeId) (p : String) (af : Array Edge) (gd : Option (Nat × Bool)) : waitO x ⟨d, op, t, p, af, gd⟩ = ⟨d, op, t, p, af.push ⟨x, .data⟩, gd⟩ := rfl
@[simp] theorem mapO_mk (f : Nat → Nat) (d : Option Tmp) (op : Op) (t : TypeId) (p : String) (af : Array Edge) (gd : Option (Nat × Bool)) : mapO f ⟨d, op, t, p, af, gd⟩ = ⟨d, op, t, p, af.map fun e => ⟨f e.on, e.ground⟩, gd⟩ := rfl
theorem waitO_after (x : Nat) (o : Oper) : (waitO x o).after = o.after.push ⟨x, .data⟩ := rfl
/-- A run whose order is drawn. -/
def AWD (P : Program) (nt : Nat) (ops : Array Oper) (e : Env) (H : AH) (Q : Ex → Env → AH → Prop) : Prop :=
  ∀ (ro : Option Nat) (base : Nat) (w0 : World) (σ : Inj) (w : World) (a : Act), RoOk ro σ → Sim base w0 σ H w → ERel σ nt e a → wpAnyIn (fc ro) 0 P .any ops (AWPost base w0 nt σ a.defers Q) ops.size (Array.replicate ops.size false) a w
section
variable {P : Program} {nt : Nat} {e e' : Env} {H H' : AH} {ops : Array Oper} {tr : List Rec}
/-- A run by any order that may come. -/
def AWR (P : Program) (nt : Nat) (ops : Array Oper) (e : Env) (H : AH) (Q : Ex → Env → AH → Prop) : Prop :=
  ∀ (ro : Option Nat) (base : Nat) (w0 : World) (σ : Inj) (w : World) (a : Act), RoOk ro σ → Sim base w0 σ H w → ERel σ nt e a → ∀ L, ValidL ops (Array.replicate ops.size false) L → wpOpsIn (fc ro) 0 P ops (AWPost base w0 nt σ a.defers Q) L a w
def pairOK (x y : Nat) (ord : List Nat) (l : List Oper) : Bool := !Nat.beq x y && Nat.blt x l.length && Nat.blt y l.length && quietO l && permOK ord l.length
/-! ### Texts in another order; operations in order behind marked ones -/
def wpUM (P : Program) (nt : Nat) (ops : Array Oper) (H0 : AH) : List Bool → List Oper → Env → AH → (Env → AH → Prop) → Prop
  | [], l, e, H, K => wpO P nt ops l e H K
  | _ :: _, [], _, _, _ => False
  | b :: ms, o :: rest, e, H, K =>
    wantS (wantedA ops e o)
      (dstOk nt o.dst = true ∧
        if isFnCall o.op then callS (opCall P (oval e) o.op) fun f args => exX P H f args fun v H' => wpUM P nt ops H0 ms rest (putDst e o.dst (some v)) H' K
        else if b then resS (execN P (oval e) H0 o.op) fun v _ => wpUM P nt ops H0 ms rest (putDst e o.dst v) H K
        else resS (execN P (oval e) H o.op) fun v H' => extO o.op H0 H' ∧ wpUM P nt ops H0 ms rest (putDst e o.dst v) H' K)
      (wpUM P nt ops H0 ms rest (putDst e o.dst none) H K)
/-- Reads that are in no order with a writing are marked, and both are among the first ones; the others are in order, behind all before them. -/
def markSM (ms : List Bool) (ops : Array Oper) : Bool :=
  ordOK ops && decide (ms.length < ops.size) && (let mk := masks ops.toList []; (ops.toList.zipIdx.all fun x => !isR x.1.op || !decide (x.2 < ms.length) || ops.toList.zipIdx.all fun y => !isW y.1.op || !decide (y.2 < ms.length) || anc mk x.2 y.2 || anc mk y.2 x.2 || (ms[x.2]?).getD false) &&
    (List.range ops.size).all fun k => decide (k < ms.length) || (List.range k).all fun i => anc mk k i) && ops.toList.zipIdx.all fun z => !((ms[z.2]?).getD false) || isR z.1.op
@[congr] theorem c_wpUM {H0 : AH} {ms : List Bool} {l : List Oper} {e e' : Env} {H H' : AH} {K : Env → AH → Prop} (h : e = e') (h' : H = H') : wpUM P nt ops H0 ms l e H K = wpUM P nt ops H0 ms l e' H' K := by rw [h, h']
@[simp] theorem wum_nil {H0 : AH} (l : List Oper) (K : Env → AH → Prop) : wpUM P nt ops H0 [] l e H K = wpO P nt ops l e H K := by cases l <;> rfl
@[simp] theorem wum_consN {H0 : AH} (b : Bool) (ms : List Bool) (d : Option Tmp) (op : Op) (t : TypeId) (p : String) (af : Array Edge) (rest : List Oper) (K : Env → AH → Prop) : wpUM P nt ops H0 (b :: ms) (⟨d, op, t, p, af, none⟩ :: rest) e H K =
      (dstOk nt d = true ∧
        if isFnCall op then callS (opCall P (oval e) op) fun f args => exX P H f args (holdQ (fun v H' => wpUM P nt ops H0 ms rest (putDst e d (some v)) H' K) ⟨⟩)
        else if b then resS (execN P (oval e) H0 op) (holdQ (fun v _ => wpUM P nt ops H0 ms rest (putDst e d v) H K) ⟨⟩)
        else resS (execN P (oval e) H op) (holdQ (fun v H' => extO op H0 H' ∧ wpUM P nt ops H0 ms rest (putDst e d v) H' K) ⟨⟩)) := by
  simp only [wpUM, wantedA, wantS, holdQ]
  simp
end

/-! ### A copy of a temporary may be made at first -/
def tmpNe (d : Nat) : Operand → Bool
  | .tmp k => !Nat.beq k d
  | _ => true
def plainOp : Op → Bool
  | .defer _ => false
  | .select .. => false
  | _ => true
def freeOf (d t : Nat) (o : Oper) : Bool := plainOp o.op && o.op.operands.all (tmpNe d) && (match o.dst with | some k => !Nat.beq k d && !Nat.beq k t | none => true)
def edge0 (o : Oper) : Bool := o.after.any fun e => Nat.beq e.on 0 && Region.binds .any e
def pinOK : List Oper → Bool
  | ⟨some d, .move (.tmp t), _, _, af, none⟩ :: rest => af.isEmpty && !Nat.beq d t && rest.all fun o => o.guard.isNone && (edge0 o || freeOf d t o)
  | _ => false
/-- All from place m on wait for the first one. -/
def pinL (m : Nat) (l : List Oper) : List Oper := l.mapIdx fun k o => if k < m then o else waitO 0 o
section
variable {F : Fence} {n : Nat} {P : Program} {l : List Oper} {Q : Exit → Act → World → Prop}
end
section
variable {P : Program} {nt : Nat} {e e' : Env} {H H' : AH}
end
end Go.Proofs.YtengokpphglodaaDoor.AX
