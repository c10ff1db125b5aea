/- A plain reading of runs (G). -/
import Derived.Orders
import Derived.Below
import Derived.RangeFuncNested
import Derived.RangeFuncLeaves
import Derived.Deep.AppendSrc
import Derived.Deep.MidRow
import Derived.Laws.Strings
import Derived.Great.BuildSlice
import Derived.ChangeKeysEq
import Derived.Laws.StructEq
import Derived.Deep.DeepAppendWide
import Derived.Laws.MakeOwn
/- A plain reading of runs: values, rows of cells, and how they stand to the model's own. -/
namespace Go.Proofs.Ytbimapbcpmeooaa.AX
open Go Go.RowKit

/-- A value in which addresses are numbers of rows. 'undef': nothing is known of it. -/
inductive AV where
  | undef
  | bool (b : Bool)
  | int (k : IntKind) (n : Int)
  | str (s : List UInt8)
  | nilptr
  | ptr (r off ver : Nat)
  | slice (r : Option Nat) (off len ver sz : Nat) (full : Bool)
  | nilmap
  | map (r : Nat)
  | nilfunc
  | func (fn : Fn) (first captured : List AV)
  | niliface
  | iface (t : TypeId) (v : AV)
  | agg (cs : List AV)
  | tuple (vs : List AV)
  | gptr (g off : Nat)
  | clip (r off len ver sz : Nat)
  | yld (r : Nat)
  | part (r off len ver sz : Nat)
  | iter (r : Nat)
  deriving Inhabited

/-- How a piece of code ends. -/
inductive Ex where
  | normal
  | exit (id : Nat)
  | goto (l : Nat)
  | ret
  deriving DecidableEq

/-- A loop over a function: the temporaries that its rounds begin with, and its code. -/
structure LR where
  nt : Nat
  e : List (Nat × AV)
  ps : Array Tmp
  assign : Code
  body : Code

inductive AObj where
  | row (cells : List AV) (ver stale : Nat) (ro : Bool)
  | map (entries : List (AV × AV))
  | gvar (g : Nat) (cells : List AV)
  | loop (s : LoopState) (pe : Ex) (L : LR)
  | iter (s : List UInt8) (pos : Nat)
  deriving Inhabited

/-- The jump that a round leaves behind. -/
def Ex.code : Ex → Option Code
  | .normal => none
  | .exit i => some (.exit i)
  | .goto l => some (.goto l)
  | .ret => some .ret

abbrev AH := List AObj
abbrev Env := List (Nat × AV)

/-- ('oth b': block b holds no deferred call (false), or a loop's record (true). 'fin r': up to which place the slices of the row's newest state can grow, unless they are full.) Where a row lies: 'canon r' is the block of its newest state; 'fam b = (r, d, n)': block b, of n cells, holds a state of row r, place p at offset d + p. -/
structure Inj where
  canon : Nat → Nat
  fam : Nat → Option (Nat × Int × Nat)
  ver : Nat → Nat
  mapAt : Nat → Option Nat
  fin : Nat → Nat
  oth : Nat → Option Bool

mutual
inductive RelV (σ : Inj) : AV → Value → Prop
  | undef (v : Value) : RelV σ .undef v
  | bool (b : Bool) : RelV σ (.bool b) (.bool b)
  | int (k : IntKind) (n : Int) : RelV σ (.int k n) (.int k n)
  | str (s : ByteArray) : RelV σ (.str s.data.toList) (.string s)
  | nilptr : RelV σ .nilptr (.pointer none)
  | ptr {r off ver b o n : Nat} {d : Int} : σ.fam b = some (r, d, n) → (o : Int) = d + off → ver ≤ σ.ver r → (ver = σ.ver r → b = σ.canon r) →
      RelV σ (.ptr r off ver) (.pointer (some ⟨b, o, none⟩))
  | nilslice {off ver sz : Nat} {full : Bool} : RelV σ (.slice none off 0 ver sz full) (.slice none 0 0)
  | slice {r off len ver sz b o n cap : Nat} {full : Bool} {sp : Option Nat} {d : Int} : σ.fam b = some (r, d, n) → ver ≤ σ.ver r → (ver = σ.ver r → b = σ.canon r) → len ≤ cap →
      (cap ≠ 0 → (o : Int) = d + off ∧ o + cap * sz ≤ n ∧ sp = none) → (full = true → cap = len) → (ver = σ.ver r → σ.fin r ≤ off + cap * sz) → RelV σ (.slice (some r) off len ver sz full) (.slice (some ⟨b, o, sp⟩) len cap)
  | nilmap : RelV σ .nilmap (.map none)
  | map {r b : Nat} : σ.mapAt r = some b → RelV σ (.map r) (.map (some b))
  | nilfunc : RelV σ .nilfunc .nilFunc
  | func (fn : Fn) {f1 c1 : List AV} {f2 c2 : Array Value} : RelVs σ f1 f2.toList → RelVs σ c1 c2.toList → RelV σ (.func fn f1 c1) (.func fn f2 c2)
  | niliface : RelV σ .niliface .nilIface
  | iface (t : TypeId) {v : AV} {c : Value} : RelV σ v c → RelV σ (.iface t v) (.iface t c)
  | agg {vs : List AV} {cs : Array Value} : RelVs σ vs cs.toList → RelV σ (.agg vs) (.agg cs)
  | tuple {vs : List AV} {cs : Array Value} : RelVs σ vs cs.toList → RelV σ (.tuple vs) (.tuple cs)
  | gptr (g off : Nat) : RelV σ (.gptr g off) (.pointer (some ⟨g, off, none⟩))
  | clip {r off len ver sz b o n : Nat} {sp : Option Nat} {d : Int} : σ.fam b = some (r, d, n) → ver ≤ σ.ver r → (ver = σ.ver r → b = σ.canon r) →
      (len ≠ 0 → (o : Int) = d + off ∧ o + len * sz ≤ n ∧ sp = none) → RelV σ (.clip r off len ver sz) (.slice (some ⟨b, o, sp⟩) len len)
  | yld {r b : Nat} : σ.mapAt r = some b → RelV σ (.yld r) (.func (.yield b) #[] #[])
  | part {r off len ver sz b o n cap : Nat} {sp : Option Nat} {d : Int} : σ.fam b = some (r, d, n) → ver ≤ σ.ver r → (ver = σ.ver r → b = σ.canon r) → len ≤ cap →
      (len ≠ 0 → (o : Int) = d + off ∧ o + len * sz ≤ n ∧ sp = none) → RelV σ (.part r off len ver sz) (.slice (some ⟨b, o, sp⟩) len cap)
  | iter {r b : Nat} : σ.mapAt r = some b → RelV σ (.iter r) (.pointer (some ⟨b, 0, none⟩))
inductive RelVs (σ : Inj) : List AV → List Value → Prop
  | nil : RelVs σ [] []
  | cons {v : AV} {c : Value} {vs : List AV} {cs : List Value} : RelV σ v c → RelVs σ vs cs → RelVs σ (v :: vs) (c :: cs)
end

/-- What a later state of the world owes an earlier one. -/
structure Inj.le (σ σ' : Inj) : Prop where
  fam : ∀ b r d n, σ.fam b = some (r, d, n) → σ'.fam b = some (r, d, n) ∧ σ.ver r ≤ σ'.ver r ∧ (σ.ver r = σ'.ver r → σ'.canon r = σ.canon r)
  fin : ∀ b r d n, σ.fam b = some (r, d, n) → σ.ver r = σ'.ver r → σ'.fin r = σ.fin r
  map : ∀ r b, σ.mapAt r = some b → σ'.mapAt r = some b
  oth : ∀ b k, σ.oth b = some k → σ'.oth b = some k

theorem Inj.le.refl (σ : Inj) : σ.le σ := ⟨fun _ _ _ _ h => ⟨h, Nat.le_refl _, fun _ => rfl⟩, fun _ _ _ _ _ _ => rfl, fun _ _ h => h, fun _ _ h => h⟩
theorem Inj.le.trans {a b c : Inj} (h : a.le b) (k : b.le c) : a.le c := ⟨fun x r d n hx => by
  obtain ⟨h1, h2, h3⟩ := h.fam x r d n hx
  obtain ⟨k1, k2, k3⟩ := k.fam x r d n h1
  exact ⟨k1, Nat.le_trans h2 k2, fun e => by rw [k3 (by omega), h3 (by omega)]⟩, fun x r d n hx e => by
  obtain ⟨h1, h2, h3⟩ := h.fam x r d n hx
  obtain ⟨k1, k2, k3⟩ := k.fam x r d n h1
  rw [k.fin x r d n h1 (by omega), h.fin x r d n hx (by omega)], fun r b hr => k.map r b (h.map r b hr), fun r b hr => k.oth r b (h.oth r b hr)⟩

mutual
theorem RelV.mono {σ σ' : Inj} (h : σ.le σ') : ∀ {v : AV} {c : Value}, RelV σ v c → RelV σ' v c
  | _, _, .undef v => .undef v
  | _, _, .bool b => .bool b
  | _, _, .int k n => .int k n
  | _, _, .str s => .str s
  | _, _, .nilptr => .nilptr
  | _, _, .ptr hf ho hv hc => .ptr (h.fam _ _ _ _ hf).1 ho (Nat.le_trans hv (h.fam _ _ _ _ hf).2.1) (fun e => by
      have h2 := (h.fam _ _ _ _ hf).2
      have e1 := h2.1
      rw [h2.2 (by omega)]; exact hc (by omega))
  | _, _, .nilslice => .nilslice
  | _, _, .slice hf hv hc hl ho hfull hfin => .slice (h.fam _ _ _ _ hf).1 (Nat.le_trans hv (h.fam _ _ _ _ hf).2.1) (fun e => by
      have h2 := (h.fam _ _ _ _ hf).2
      have e1 := h2.1
      rw [h2.2 (by omega)]; exact hc (by omega)) hl ho hfull (fun e => by
      have h2 := (h.fam _ _ _ _ hf).2
      have e1 := h2.1
      rw [h.fin _ _ _ _ hf (by omega)]; exact hfin (by omega))
  | _, _, .nilmap => .nilmap
  | _, _, .map hf => .map (h.map _ _ hf)
  | _, _, .nilfunc => .nilfunc
  | _, _, .func fn h1 h2 => .func fn (RelVs.mono h h1) (RelVs.mono h h2)
  | _, _, .niliface => .niliface
  | _, _, .iface t h1 => .iface t (RelV.mono h h1)
  | _, _, .agg h1 => .agg (RelVs.mono h h1)
  | _, _, .tuple h1 => .tuple (RelVs.mono h h1)
  | _, _, .gptr g off => .gptr g off
  | _, _, .clip hf hv hc ho => .clip (h.fam _ _ _ _ hf).1 (Nat.le_trans hv (h.fam _ _ _ _ hf).2.1) (fun e => by
      have h2 := (h.fam _ _ _ _ hf).2
      have e1 := h2.1
      rw [h2.2 (by omega)]; exact hc (by omega)) ho
  | _, _, .yld hf => .yld (h.map _ _ hf)
  | _, _, .iter hf => .iter (h.map _ _ hf)
  | _, _, .part hf hv hc hl ho => .part (h.fam _ _ _ _ hf).1 (Nat.le_trans hv (h.fam _ _ _ _ hf).2.1) (fun e => by
      have h2 := (h.fam _ _ _ _ hf).2
      have e1 := h2.1
      rw [h2.2 (by omega)]; exact hc (by omega)) hl ho
theorem RelVs.mono {σ σ' : Inj} (h : σ.le σ') : ∀ {vs : List AV} {cs : List Value}, RelVs σ vs cs → RelVs σ' vs cs
  | _, _, .nil => .nil
  | _, _, .cons h1 h2 => .cons (RelV.mono h h1) (RelVs.mono h h2)
end

/-- The cell at offset o of block b reads as v. -/
def CellAt (σ : Inj) (w : World) (b : Nat) (o : Int) (v : AV) : Prop :=
  v = .undef ∨ ∃ (k : Nat) (c : Value), o = k ∧ w.cell? ⟨b, k, none⟩ = some c ∧ RelV σ v c

theorem CellAt.mono {σ σ' : Inj} {w w' : World} {b : Nat} {o : Int} {v : AV} (h : CellAt σ w b o v) (hl : σ.le σ')
    (hc : ∀ k : Nat, o = k → w'.cell? ⟨b, k, none⟩ = w.cell? ⟨b, k, none⟩) : CellAt σ' w' b o v := by
  rcases h with h | ⟨k, c, hk, hw, hr⟩
  · exact .inl h
  · exact .inr ⟨k, c, hk, by rw [hc k hk]; exact hw, hr.mono hl⟩

/-- What is known of one row. -/
structure RowOk (base : Nat) (σ : Inj) (w : World) (r : Nat) (cells : List AV) (ver stale : Nat) (ro : Bool) : Prop where
  ver : σ.ver r = ver
  fin : σ.fin r = if ro then 0 else cells.length
  new : ∃ (d : Int) (n : Nat), σ.fam (σ.canon r) = some (r, d, n) ∧ ∀ (p : Nat) (v : AV), cells[p]? = some v → CellAt σ w (σ.canon r) (d + p) v
  all : ∀ b d n, σ.fam b = some (r, d, n) → (ro = false → base ≤ b) ∧
    (∃ c e fz, w.heap[b]? = some (.cells c e fz) ∧ c.size = n ∧ (ro = false → fz = (0, 0))) ∧
    ∀ (p : Nat) (v : AV), p < stale → cells[p]? = some v → CellAt σ w b (d + p) v

def RelEs (σ : Inj) : List (AV × AV) → List MapEntry → Prop
  | [], [] => True
  | (k, v) :: l, e :: es => RelV σ k e.key ∧ RelV σ v e.val ∧ RelEs σ l es
  | _, _ => False

structure MapOk (base : Nat) (σ : Inj) (w : World) (r : Nat) (l : List (AV × AV)) : Prop where
  at_ : ∃ b es clock, σ.mapAt r = some b ∧ base ≤ b ∧ w.heap[b]? = some (.map es clock) ∧ RelEs σ l es.toList

def eget : Env → Nat → AV
  | [], _ => .undef
  | (k, v) :: e, t => if k = t then v else eget e t

/-- What is known of one loop's record. -/
structure LoopOk (base : Nat) (σ : Inj) (w : World) (r : Nat) (s : LoopState) (pe : Ex) (L : LR) : Prop where
  at_ : ∃ (b : Nat) (R : Loop), σ.mapAt r = some b ∧ base ≤ b ∧ w.heap[b]? = some (.loop R) ∧ R.state = s ∧ R.pending = pe.code ∧ R.tmps.size = L.nt ∧ R.params = L.ps ∧ R.assign = L.assign ∧ R.body = L.body ∧
    (∀ t, RelV σ (eget L.e t) (R.tmps.getD t undef)) ∧ σ.oth b = some true

/-- A block that is no row: of deferred calls, none of them there, or a loop's record. -/
def OthAt (w : World) (b : Nat) : Bool → Prop
  | false => w.heap[b]? = some (.deferred (some []))
  | true => ∃ R, w.heap[b]? = some (.loop R)

/-- A package's variable that nobody writes. -/
def GvOk (base : Nat) (w0 : World) (σ : Inj) (g : Nat) (cells : List AV) : Prop := g < base ∧ ∃ C e fz, w0.heap[g]? = some (.cells C e fz) ∧ RelVs σ cells C.toList
theorem GvOk.mono {base : Nat} {w0 : World} {σ σ' : Inj} {g : Nat} {cells : List AV} (h : GvOk base w0 σ g cells) (hl : σ.le σ') : GvOk base w0 σ' g cells :=
  let ⟨h1, C, e, fz, h2, h3⟩ := h
  ⟨h1, C, e, fz, h2, h3.mono hl⟩
theorem gv_set {H : AH} {r r' g : Nat} {cells c : List AV} {v s : Nat} {o : Bool} (h : (H.set r (.row c v s o))[r']? = some (.gvar g cells)) : H[r']? = some (.gvar g cells) := by
  rw [List.getElem?_set] at h
  split at h
  · split at h <;> cases h
  · exact h
theorem gv_push {H : AH} {r' g : Nat} {cells c : List AV} {v s : Nat} {o : Bool} (h : (H ++ [.row c v s o])[r']? = some (.gvar g cells)) : H[r']? = some (.gvar g cells) := by
  rcases Nat.lt_or_ge r' H.length with hr | hr
  · rw [List.getElem?_append_left hr] at h; exact h
  · rw [List.getElem?_append_right hr] at h
    rcases Nat.lt_or_ge (r' - H.length) 1 with h1 | h1
    · have : r' - H.length = 0 := by omega
      rw [this] at h; simp at h
    · rw [List.getElem?_eq_none (by simpa using h1)] at h; cases h

/-- An iterator over a text. -/
def ItOk (base : Nat) (σ : Inj) (w : World) (r : Nat) (s : List UInt8) (pos : Nat) : Prop := ∃ b, σ.mapAt r = some b ∧ base ≤ b ∧ w.heap[b]? = some (.stringIter ⟨s.toArray⟩ pos)

/-- The heap of rows H describes the world w, which below block 'base' is as w0 was. -/
structure Sim (base : Nat) (w0 : World) (σ : Inj) (H : AH) (w : World) : Prop where
  below : Below base w0 w
  size : base ≤ w.heap.size
  lt : ∀ b r d n, σ.fam b = some (r, d, n) → r < H.length ∧ b < w.heap.size
  mlt : ∀ r b, σ.mapAt r = some b → r < H.length ∧ b < w.heap.size
  rows : ∀ r cells ver stale ro, H[r]? = some (.row cells ver stale ro) → RowOk base σ w r cells ver stale ro
  maps : ∀ r l, H[r]? = some (.map l) → MapOk base σ w r l
  gvars : ∀ (r g : Nat) (cells : List AV), H[r]? = some (AObj.gvar g cells) → GvOk base w0 σ g cells
  loops : ∀ (r : Nat) (s : LoopState) (pe : Ex) (L : LR), H[r]? = some (.loop s pe L) → LoopOk base σ w r s pe L
  oths : ∀ b k, σ.oth b = some k → base ≤ b ∧ OthAt w b k
  minj : ∀ r r' b, σ.mapAt r = some b → σ.mapAt r' = some b → r = r'
  iters : ∀ (r : Nat) (s : List UInt8) (pos : Nat), H[r]? = some (.iter s pos) → ItOk base σ w r s pos

theorem Obj.cells_loop (R : Loop) : (Obj.loop R).isCells = false := rfl
theorem LoopOk.mono {base : Nat} {σ σ' : Inj} {w w' : World} {r : Nat} {s : LoopState} {pe : Ex} {L : LR} (h : LoopOk base σ w r s pe L) (hl : σ.le σ') (hk : ∀ (k : Nat) (o : Obj), w.heap[k]? = some o → o.isCells = false → w'.heap[k]? = some o) : LoopOk base σ' w' r s pe L := by
  obtain ⟨b, R, h1, h2, h3, h4, h5, h6, h7, h8, h9, h10, h11⟩ := h.at_
  exact ⟨b, R, hl.map _ _ h1, h2, hk _ _ h3 rfl, h4, h5, h6, h7, h8, h9, fun t => (h10 t).mono hl, hl.oth _ _ h11⟩
theorem OthAt.mono {w w' : World} {b : Nat} {k : Bool} (h : OthAt w b k) (hk : ∀ (k : Nat) (o : Obj), w.heap[k]? = some o → o.isCells = false → w'.heap[k]? = some o) : OthAt w' b k := by
  cases k with
  | false => exact hk _ _ h rfl
  | true => obtain ⟨R, h⟩ := h; exact ⟨R, hk _ _ h rfl⟩
theorem OthAt.lt {w : World} {b : Nat} {k : Bool} (h : OthAt w b k) : b < w.heap.size := by
  cases k with
  | false => exact (Array.getElem?_eq_some_iff.1 h).1
  | true => obtain ⟨R, h⟩ := h; exact (Array.getElem?_eq_some_iff.1 h).1
theorem Sim.loops_of {base : Nat} {w0 w w' : World} {σ σ' : Inj} {H H' : AH} (S : Sim base w0 σ H w) (hl : σ.le σ') (hk : ∀ (k : Nat) (o : Obj), w.heap[k]? = some o → o.isCells = false → w'.heap[k]? = some o)
    (hH : ∀ (r : Nat) (s : LoopState) (pe : Ex) (L : LR), H'[r]? = some (.loop s pe L) → H[r]? = some (.loop s pe L)) : ∀ (r : Nat) (s : LoopState) (pe : Ex) (L : LR), H'[r]? = some (.loop s pe L) → LoopOk base σ' w' r s pe L :=
  fun r s pe L h => (S.loops r s pe L (hH r s pe L h)).mono hl hk
theorem Sim.oths_of {base : Nat} {w0 w w' : World} {σ σ' : Inj} {H : AH} (S : Sim base w0 σ H w) (ho : ∀ b k, σ'.oth b = some k → σ.oth b = some k) (hk : ∀ (k : Nat) (o : Obj), w.heap[k]? = some o → o.isCells = false → w'.heap[k]? = some o) :
    ∀ b k, σ'.oth b = some k → base ≤ b ∧ OthAt w' b k :=
  fun b k h => ⟨(S.oths b k (ho b k h)).1, (S.oths b k (ho b k h)).2.mono hk⟩
theorem ItOk.mono {base : Nat} {σ σ' : Inj} {w w' : World} {r : Nat} {s : List UInt8} {pos : Nat} (h : ItOk base σ w r s pos) (hl : σ.le σ') (hk : ∀ (k : Nat) (o : Obj), w.heap[k]? = some o → o.isCells = false → w'.heap[k]? = some o) : ItOk base σ' w' r s pos := by
  obtain ⟨b, h1, h2, h3⟩ := h
  exact ⟨b, hl.map _ _ h1, h2, hk _ _ h3 rfl⟩
theorem Sim.iters_of {base : Nat} {w0 w w' : World} {σ σ' : Inj} {H H' : AH} (S : Sim base w0 σ H w) (hl : σ.le σ') (hk : ∀ (k : Nat) (o : Obj), w.heap[k]? = some o → o.isCells = false → w'.heap[k]? = some o)
    (hH : ∀ (r : Nat) (s : List UInt8) (pos : Nat), H'[r]? = some (.iter s pos) → H[r]? = some (.iter s pos)) : ∀ (r : Nat) (s : List UInt8) (pos : Nat), H'[r]? = some (.iter s pos) → ItOk base σ' w' r s pos :=
  fun r s pos h => (S.iters r s pos (hH r s pos h)).mono hl hk
theorem iter_set {H : AH} {r r' : Nat} {cells : List AV} {v s : Nat} {o : Bool} {s' : List UInt8} {pos : Nat} (h : (H.set r (.row cells v s o))[r']? = some (.iter s' pos)) : H[r']? = some (.iter s' pos) := by
  rw [List.getElem?_set] at h
  split at h
  · split at h <;> cases h
  · exact h
theorem iter_push {H : AH} {r' : Nat} {cells : List AV} {v s : Nat} {o : Bool} {s' : List UInt8} {pos : Nat} (h : (H ++ [.row cells v s o])[r']? = some (.iter s' pos)) : H[r']? = some (.iter s' pos) := by
  rcases Nat.lt_or_ge r' H.length with hr | hr
  · rw [List.getElem?_append_left hr] at h; exact h
  · rw [List.getElem?_append_right hr] at h
    rcases Nat.lt_or_ge (r' - H.length) 1 with h1 | h1
    · have : r' - H.length = 0 := by omega
      rw [this] at h; simp at h
    · rw [List.getElem?_eq_none (by simpa using h1)] at h; cases h
theorem loop_set {H : AH} {r r' : Nat} {cells : List AV} {v s : Nat} {o : Bool} {s' : LoopState} {pe : Ex} {L : LR} (h : (H.set r (.row cells v s o))[r']? = some (.loop s' pe L)) : H[r']? = some (.loop s' pe L) := by
  rw [List.getElem?_set] at h
  split at h
  · split at h <;> cases h
  · exact h
theorem loop_push {H : AH} {r' : Nat} {cells : List AV} {v s : Nat} {o : Bool} {s' : LoopState} {pe : Ex} {L : LR} (h : (H ++ [.row cells v s o])[r']? = some (.loop s' pe L)) : H[r']? = some (.loop s' pe L) := by
  rcases Nat.lt_or_ge r' H.length with hr | hr
  · rw [List.getElem?_append_left hr] at h; exact h
  · rw [List.getElem?_append_right hr] at h
    rcases Nat.lt_or_ge (r' - H.length) 1 with h1 | h1
    · have : r' - H.length = 0 := by omega
      rw [this] at h; simp at h
    · rw [List.getElem?_eq_none (by simpa using h1)] at h; cases h

/-! ### Environments -/
def eset : Env → Nat → AV → Env
  | [], t, v => [(t, v)]
  | (k, u) :: e, t, v => if t < k then (t, v) :: (k, u) :: e else if k = t then (t, v) :: e else (k, u) :: eset e t v
def edel : Env → Nat → Env
  | [], _ => []
  | (k, u) :: e, t => if k = t then edel e t else (k, u) :: edel e t
def ekeep (ks : List Nat) : Env → Env
  | [] => []
  | (k, u) :: e => if ks.contains k then (k, u) :: ekeep ks e else ekeep ks e

theorem eget_eset (e : Env) (t s : Nat) (v : AV) : eget (eset e t v) s = if t = s then v else eget e s := by
  induction e with
  | nil => simp [eset, eget]
  | cons x e ih =>
    obtain ⟨k, u⟩ := x
    simp only [eset]
    split
    · simp only [eget]
    · split
      · rename_i h1 h2; subst h2; simp only [eget]; split <;> rfl
      · rename_i h1 h2
        simp only [eget, ih]
        by_cases h3 : k = s
        · subst h3; rw [if_pos rfl, if_neg (fun h => h2 h.symm), if_pos rfl]
        · simp [h3]

theorem eget_edel (e : Env) (t s : Nat) : eget (edel e t) s = if t = s then .undef else eget e s := by
  induction e with
  | nil => simp [edel, eget]
  | cons x e ih =>
    obtain ⟨k, u⟩ := x
    simp only [edel]
    split
    · rename_i h; subst h; rw [ih]; simp only [eget]; split <;> rfl
    · rename_i h
      simp only [eget, ih]
      by_cases h3 : k = s
      · subst h3; rw [if_pos rfl, if_neg (fun h' => h h'.symm), if_pos rfl]
      · simp [h3]

theorem eget_ekeep (ks : List Nat) (e : Env) (s : Nat) : eget (ekeep ks e) s = eget e s ∨ eget (ekeep ks e) s = .undef := by
  induction e with
  | nil => exact .inl rfl
  | cons x e ih =>
    obtain ⟨k, u⟩ := x
    simp only [ekeep]
    by_cases h : k = s
    · subst h
      split
      · simp [eget]
      · rename_i hk
        right
        clear ih
        induction e with
        | nil => rfl
        | cons y e ih =>
          obtain ⟨k', u'⟩ := y
          simp only [ekeep]
          split
          · rename_i hk'
            simp only [eget]
            rw [if_neg (fun h => hk (by rw [← h]; exact hk'))]
            exact ih
          · exact ih
    · split
      · simp only [eget, h, if_false]; exact ih
      · simp only [eget, h, if_false]; exact ih

/-- The environment describes the temporaries. -/
def ERel (σ : Inj) (nt : Nat) (e : Env) (a : Act) : Prop :=
  a.tmps.size = nt ∧ True ∧ ∀ t, RelV σ (eget e t) (a.tmps.getD t undef)

theorem ERel.mono {σ σ' : Inj} {nt : Nat} {e : Env} {a : Act} (h : ERel σ nt e a) (hl : σ.le σ') : ERel σ' nt e a :=
  ⟨h.1, h.2.1, fun t => (h.2.2 t).mono hl⟩
theorem ERel.keep {σ : Inj} {nt : Nat} {e : Env} {a : Act} (h : ERel σ nt e a) (ks : List Nat) : ERel σ nt (ekeep ks e) a :=
  ⟨h.1, h.2.1, fun t => by
    rcases eget_ekeep ks e t with h1 | h1
    · rw [h1]; exact h.2.2 t
    · rw [h1]; exact .undef _⟩
theorem ERel.put {σ : Inj} {nt : Nat} {e : Env} {a : Act} (h : ERel σ nt e a) {t : Nat} {v : AV} {c : Value} (ht : t < nt) (hv : RelV σ v c) :
    ERel σ nt (eset e t v) (a.put (some t) c) := by
  refine ⟨by simp [Act.put, h.1], h.2.1, fun s => ?_⟩
  rw [eget_eset]
  by_cases hs : t = s
  · subst hs
    have ht' : t < a.tmps.size := by rw [h.1]; exact ht
    simp [Act.put, Array.getD, ht', hv]
  · have := h.2.2 s
    simp only [hs, if_false, Act.put]
    simpa [Array.getD_eq_getD_getElem?, Array.getElem?_setIfInBounds_ne hs] using this
theorem ERel.del {σ : Inj} {nt : Nat} {e : Env} {a : Act} (h : ERel σ nt e a) (t : Nat) (c : Value) : ERel σ nt (edel e t) (a.put (some t) c) := by
  refine ⟨by simp [Act.put, h.1], h.2.1, fun s => ?_⟩
  rw [eget_edel]
  by_cases hs : t = s
  · subst hs; simp; exact .undef _
  · have := h.2.2 s
    simp only [hs, if_false, Act.put]
    simpa [Array.getD_eq_getD_getElem?, Array.getElem?_setIfInBounds_ne hs] using this

/-! ### Operands -/
def absV : Nat → Value → AV
  | _, .bool b => .bool b
  | _, .int k n => .int k n
  | _, .string s => .str s.data.toList
  | _, .pointer none => .nilptr
  | _, .slice none 0 0 => .slice none 0 0 0 1 false
  | _, .map none => .nilmap
  | _, .nilFunc => .nilfunc
  | _, .nilIface => .niliface
  | n + 1, .iface t v => .iface t (absV n v)
  | n + 1, .agg cs => .agg (cs.toList.map (absV n))
  | n + 1, .tuple vs => .tuple (vs.toList.map (absV n))
  | _, .func fn a b => if a.isEmpty && b.isEmpty then .func fn [] [] else .undef
  | _, _ => .undef

theorem RelVs.of_map {σ : Inj} {f : Value → AV} : ∀ {l : List Value}, (∀ v ∈ l, RelV σ (f v) v) → RelVs σ (l.map f) l
  | [], _ => .nil
  | v :: l, h => .cons (h v (by simp)) (RelVs.of_map fun x hx => h x (by simp [hx]))

theorem relV_fn0 {σ : Inj} (fn : Fn) (a b : Array Value) : RelV σ (if a.isEmpty && b.isEmpty then .func fn [] [] else .undef) (.func fn a b) := by
  split
  · rename_i h
    simp at h
    obtain ⟨rfl, rfl⟩ := h
    exact .func _ .nil .nil
  · exact .undef _

theorem relV_slice0 {σ : Inj} (n : Nat) (a : Option Addr) (l c : Nat) : RelV σ (absV n (.slice a l c)) (.slice a l c) := by
  unfold absV
  split <;> first | exact .nilslice | exact .undef _ | (rename_i h; cases h; exact .nilslice) | (rename_i h; cases h)

theorem relV_absV (σ : Inj) : ∀ (n : Nat) (v : Value), RelV σ (absV n v) v := by
  intro n
  induction n with
  | zero =>
    intro v
    cases v with
    | bool b => exact .bool b
    | int k n => exact .int k n
    | string s => exact .str s
    | pointer a => cases a <;> first | exact .nilptr | exact .undef _
    | slice a l c => exact relV_slice0 _ _ _ _
    | map a => cases a <;> first | exact .nilmap | exact .undef _
    | nilFunc => exact .nilfunc
    | nilIface => exact .niliface
    | func fn a b => simpa [absV] using relV_fn0 fn a b
    | _ => exact .undef _
  | succ n ih =>
    intro v
    cases v with
    | bool b => exact .bool b
    | int k n => exact .int k n
    | string s => exact .str s
    | pointer a => cases a <;> first | exact .nilptr | exact .undef _
    | slice a l c => exact relV_slice0 _ _ _ _
    | map a => cases a <;> first | exact .nilmap | exact .undef _
    | nilFunc => exact .nilfunc
    | nilIface => exact .niliface
    | func fn a b => simpa [absV] using relV_fn0 fn a b
    | iface t v => exact .iface _ (ih _)
    | agg cs => exact .agg (RelVs.of_map fun v _ => ih v)
    | tuple cs => exact .tuple (RelVs.of_map fun v _ => ih v)
    | _ => exact .undef _

def oval (e : Env) : Operand → AV
  | .tmp t => eget e t
  | .const v => absV 3 v
  | .global g => .gptr g 0
  | .func f => .func (.func f) [] []

theorem oval_rel {σ : Inj} {nt : Nat} {e : Env} {a : Act} (h : ERel σ nt e a) (x : Operand) : RelV σ (oval e x) (a.eval x) := by
  cases x with
  | tmp t => exact h.2.2 t
  | const v => exact relV_absV σ 3 v
  | global g => exact .gptr g 0
  | func f => exact .func _ .nil .nil

end Go.Proofs.Ytbimapbcpmeooaa.AX

/- A plain reading of runs: rows are read, written, made and grown. -/
namespace Go.Proofs.Ytbimapbcpmeooaa.AX
open Go Go.RowKit

def AV.one : AV → Bool
  | .agg _ | .tuple _ | .undef => false
  | _ => true

theorem RelV.oneCell {σ : Inj} {v : AV} {c : Value} (h : RelV σ v c) (h1 : v.one = true) : c.oneCell' = true := by
  cases h <;> first | rfl | (simp [AV.one] at h1)

theorem RelV.clipped {σ : Inj} {r off len ver sz : Nat} {c : Value} (h : RelV σ (.clip r off len ver sz) c) : ∃ (b o n : Nat) (sp : Option Nat) (d : Int), c = .slice (some ⟨b, o, sp⟩) len len ∧ σ.fam b = some (r, d, n) ∧ ver ≤ σ.ver r ∧ (ver = σ.ver r → b = σ.canon r) ∧
    (len ≠ 0 → (o : Int) = d + off ∧ o + len * sz ≤ n ∧ sp = none) := by
  cases h with
  | clip hf hv hc ho => exact ⟨_, _, _, _, _, rfl, hf, hv, hc, ho⟩

theorem RelV.parted {σ : Inj} {r off len ver sz : Nat} {c : Value} (h : RelV σ (.part r off len ver sz) c) : ∃ (b o n cap : Nat) (sp : Option Nat) (d : Int), c = .slice (some ⟨b, o, sp⟩) len cap ∧ σ.fam b = some (r, d, n) ∧ ver ≤ σ.ver r ∧ (ver = σ.ver r → b = σ.canon r) ∧ len ≤ cap ∧
    (len ≠ 0 → (o : Int) = d + off ∧ o + len * sz ≤ n ∧ sp = none) := by
  cases h with
  | part hf hv hc hl ho => exact ⟨_, _, _, _, _, _, rfl, hf, hv, hc, hl, ho⟩

theorem RelVs.get {σ : Inj} : ∀ {vs : List AV} {cs : List Value}, RelVs σ vs cs → ∀ {q : Nat} {x : AV}, vs[q]? = some x → ∃ c, cs[q]? = some c ∧ RelV σ x c
  | _, _, .nil, q, x, h => by simp at h
  | _, _, .cons h1 h2, 0, x, h => by simp at h; subst h; exact ⟨_, by simp, h1⟩
  | _, _, .cons h1 h2, q + 1, x, h => by simpa using RelVs.get h2 (q := q) (by simpa using h)
theorem RelVs.length {σ : Inj} : ∀ {vs : List AV} {cs : List Value}, RelVs σ vs cs → vs.length = cs.length
  | _, _, .nil => rfl
  | _, _, .cons h1 h2 => by simp [RelVs.length h2]
theorem RelVs.append {σ : Inj} : ∀ {vs : List AV} {cs : List Value} {vs' : List AV} {cs' : List Value}, RelVs σ vs cs → RelVs σ vs' cs' → RelVs σ (vs ++ vs') (cs ++ cs')
  | _, _, _, _, .nil, h => h
  | _, _, _, _, .cons h1 h2, h => .cons h1 (RelVs.append h2 h)
theorem RelVs.one {σ : Inj} : ∀ {vs : List AV} {cs : List Value}, RelVs σ vs cs → (∀ v ∈ vs, v.one = true) → ∀ c ∈ cs, c.oneCell' = true
  | _, _, .nil, _, c, h => by simp at h
  | _, _, .cons h1 h2, h, c, hc => by
    rcases List.mem_cons.1 hc with e | e
    · subst e; exact h1.oneCell (h _ (by simp))
    · exact RelVs.one h2 (fun v hv => h v (by simp [hv])) c e

def known : Option AV → Option AV
  | some .undef => none
  | x => x

theorem known_some {x : Option AV} {v : AV} (h : known x = some v) : x = some v ∧ v ≠ .undef := by
  unfold known at h
  split at h
  · cases h
  · subst h
    refine ⟨rfl, ?_⟩
    rintro rfl
    contradiction

def ld (H : AH) (r p ver : Nat) : Option AV :=
  match H[r]? with
  | some (.row cells v stale _) => if v = ver ∨ p < stale then known cells[p]? else none
  | _ => none

def takeKnown : Nat → List AV → Option (List AV)
  | 0, _ => some []
  | _ + 1, [] => none
  | _ + 1, .undef :: _ => none
  | n + 1, v :: l => match takeKnown n l with
    | some l' => some (v :: l')
    | none => none

/-- n cells from place p on. -/
def ldn (H : AH) (r ver n p : Nat) : Option (List AV) :=
  match n with
  | 0 => some []
  | n + 1 => match H[r]? with
    | some (.row cells v stale _) => if v = ver ∨ p + (n + 1) ≤ stale then takeKnown (n + 1) (cells.drop p) else none
    | _ => none

theorem takeKnown_succ (n : Nat) (l : List AV) : takeKnown (n + 1) l = (known l[0]?).bind fun v => (takeKnown n (l.drop 1)).map (v :: ·) := by
  cases l with
  | nil => rfl
  | cons v l =>
    cases v <;> simp only [takeKnown, known, List.getElem?_cons_zero, List.drop_succ_cons, List.drop_zero, Option.bind_some] <;> first | rfl | (split <;> simp_all)

theorem ldn_zero (H : AH) (r ver p : Nat) : ldn H r ver 0 p = some [] := rfl
theorem ldn_succ (H : AH) (r ver n p : Nat) : ldn H r ver (n + 1) p = (ld H r p ver).bind fun v => (ldn H r ver n (p + 1)).map (v :: ·) := by
  cases hr : H[r]? with
  | none => simp [ldn, ld, hr]
  | some o =>
    cases o with
    | map l => simp [ldn, ld, hr]
    | gvar g c => simp [ldn, ld, hr]
    | loop s pe L => simp [ldn, ld, hr]
    | iter s pos => simp [ldn, ld, hr]
    | row cells v stale ro =>
      simp only [ldn, ld, hr]
      have hk : known (cells.drop p)[0]? = known cells[p]? := by rw [List.getElem?_drop]; simp
      have hd : (cells.drop p).drop 1 = cells.drop (p + 1) := by rw [List.drop_drop]
      cases n with
      | zero =>
        simp only [takeKnown_succ, hk, takeKnown]
        by_cases h : v = ver ∨ p < stale
        · rw [if_pos (by omega), if_pos h]
        · rw [if_neg (by omega), if_neg h]; rfl
      | succ n =>
        rw [takeKnown_succ, hk, hd]
        by_cases h : v = ver ∨ p + (n + 1 + 1) ≤ stale
        · rw [if_pos h, if_pos (by omega)]; dsimp only; rw [if_pos (by omega)]
        · rw [if_neg h]
          by_cases h2 : v = ver ∨ p < stale
          · rw [if_pos h2]; dsimp only; rw [if_neg (by omega)]
            cases known cells[p]? <;> rfl
          · rw [if_neg h2]; rfl

def st (H : AH) (r p ver : Nat) (v : AV) : Option AH :=
  match H[r]? with
  | some (.row cells ver' stale ro) =>
    if ver' = ver ∧ ro = false ∧ v.one = true then
      (known cells[p]?).map fun _ => H.set r (.row (cells.set p v) ver' (min stale p) ro)
    else none
  | _ => none

/-- Values are written from place p on. -/
def stn (H : AH) (r ver : Nat) (vs : List AV) (p : Nat) : Option AH :=
  match vs with
  | [] => some H
  | v :: vs =>
    match H[r]? with
    | some (.row cells ver' stale ro) =>
      if ver' = ver ∧ ro = false ∧ (v :: vs).all AV.one = true ∧ (takeKnown (v :: vs).length (cells.drop p)).isSome = true then
        some (H.set r (.row (cells.take p ++ (v :: vs) ++ cells.drop (p + (v :: vs).length)) ver' (min stale p) ro))
      else none
    | _ => none

theorem stn_nil (H : AH) (r ver p : Nat) : stn H r ver [] p = some H := rfl
theorem stn_cons (H : AH) (r ver p : Nat) (v : AV) (vs : List AV) : stn H r ver (v :: vs) p = (st H r p ver v).bind fun H' => stn H' r ver vs (p + 1) := by
  cases hr : H[r]? with
  | none => simp [stn, st, hr]
  | some o =>
    cases o with
    | map l => simp [stn, st, hr]
    | gvar g c => simp [stn, st, hr]
    | loop s pe L => simp [stn, st, hr]
    | iter s pos => simp [stn, st, hr]
    | row cells ver' stale ro =>
      have hrlt : r < H.length := by
        rcases Nat.lt_or_ge r H.length with h1 | h1
        · exact h1
        · rw [List.getElem?_eq_none h1] at hr; cases hr
      have hk : known (cells.drop p)[0]? = known cells[p]? := by rw [List.getElem?_drop]; simp
      have hd : (cells.drop p).drop 1 = cells.drop (p + 1) := by rw [List.drop_drop]
      have hT : takeKnown (vs.length + 1) (cells.drop p) = (known cells[p]?).bind fun v => (takeKnown vs.length (cells.drop (p + 1))).map (v :: ·) := by rw [takeKnown_succ, hk, hd]
      simp only [stn, st, hr, List.length_cons, List.all_cons, Bool.and_eq_true, hT]
      clear hT
      by_cases h1 : ver' = ver ∧ ro = false ∧ v.one = true
      · rw [if_pos h1]
        obtain ⟨a1, a2, a3⟩ := h1
        cases hp : known cells[p]? with
        | none => simp
        | some u =>
          obtain ⟨hp', _⟩ := known_some hp
          have hplt : p < cells.length := by
            rcases Nat.lt_or_ge p cells.length with h2 | h2
            · exact h2
            · rw [List.getElem?_eq_none h2] at hp'; cases hp'
          simp only [Option.bind_some, Option.map_some]
          have hset : (H.set r (.row (cells.set p v) ver' (min stale p) ro))[r]? = some (.row (cells.set p v) ver' (min stale p) ro) := by
            rw [List.getElem?_set_self hrlt]
          have htake : (cells.set p v).take (p + 1) = cells.take p ++ [v] := by
            rw [List.take_set, List.take_succ_eq_append_getElem hplt, List.set_append_right _ _ (by simp; omega)]
            simp [Nat.min_eq_left (Nat.le_of_lt hplt)]
          have hdrop : ∀ k, (cells.set p v).drop (p + 1 + k) = cells.drop (p + 1 + k) := fun k => by rw [List.drop_set_of_lt (by omega)]
          cases vs with
          | nil =>
            simp only [List.length_nil, takeKnown, Option.map_some, Option.isSome_some, List.all_nil]
            rw [if_pos ⟨a1, a2, ⟨a3, trivial⟩, trivial⟩]
            congr 3
            rw [List.set_eq_take_append_cons_drop, if_pos hplt]
            simp
          | cons w vs =>
            have hd0 : (cells.set p v).drop (p + 1) = cells.drop (p + 1) := by simpa using hdrop 0
            simp only [hset, hd0, List.length_cons, List.all_cons, Bool.and_eq_true, Option.isSome_map]
            by_cases h2 : (w.one = true ∧ vs.all AV.one = true) ∧ (takeKnown (vs.length + 1) (cells.drop (p + 1))).isSome = true
            · rw [if_pos ⟨a1, a2, ⟨a3, h2.1⟩, h2.2⟩, if_pos ⟨a1, a2, h2.1, h2.2⟩, List.set_set, htake, hdrop]
              congr 3
              · simp [Nat.add_assoc, Nat.add_comm 1]
              · omega
            · rw [if_neg (fun h => h2 ⟨h.2.2.1.2, h.2.2.2⟩), if_neg (fun h => h2 ⟨h.2.2.1, h.2.2.2⟩)]
      · rw [if_neg h1, if_neg (fun h => h1 ⟨h.1, h.2.1, h.2.2.1.1⟩)]; rfl

/-- What a row becomes when 'vs' are appended to its places from off to off + n. -/
def grow (H : AH) (r off n ver : Nat) (vs : List AV) : Option (AH × Nat) :=
  match H[r]? with
  | some (.row cells v stale ro) =>
    if ro = false ∧ off + n ≤ cells.length ∧ (v = ver ∨ off + n ≤ stale) then
      some (H.set r (.row (List.replicate off .undef ++ (cells.drop off).take n ++ vs) (v + 1) (min stale (off + n)) false), v + 1)
    else none
  | _ => none

section
variable {base : Nat} {w0 w : World} {σ : Inj} {H : AH}

theorem cell_of {w : World} {b k : Nat} {c : Array Value} {e : TypeId} {fz : Nat × Nat} (h : w.heap[b]? = some (.cells c e fz)) : w.cell? ⟨b, k, none⟩ = c[k]? := by
  simp [World.cell?, h]
theorem frozen_of {w : World} {b k : Nat} {c : Array Value} {e : TypeId} (h : w.heap[b]? = some (.cells c e (0, 0))) : w.frozen? ⟨b, k, none⟩ = false := by
  simp [World.frozen?, h]

theorem Sim.ld (S : Sim base w0 σ H w) {r p ver : Nat} {v : AV} (h : ld H r p ver = some v) {b o n : Nat} {d : Int} (hf : σ.fam b = some (r, d, n)) (ho : (o : Int) = d + p)
    (hc : ver = σ.ver r → b = σ.canon r) : v ≠ .undef ∧ ∃ c, w.cell? ⟨b, o, none⟩ = some c ∧ RelV σ v c := by
  unfold AX.ld at h
  split at h
  case h_2 => cases h
  rename_i cells v' stale ro hr
  split at h
  case isFalse => cases h
  rename_i hcond
  obtain ⟨hp, hu⟩ := known_some h
  refine ⟨hu, ?_⟩
  have R := S.rows _ _ _ _ _ hr
  have hat : CellAt σ w b (d + p) v := by
    rcases hcond with e | e
    · have hb := hc (by rw [R.ver]; exact e.symm)
      obtain ⟨d', n', hf', hcell⟩ := R.new
      rw [← hb, hf] at hf'
      cases hf'
      rw [hb]; exact hcell p v hp
    · exact (R.all b d n hf).2.2 p v e hp
  rcases hat with h1 | ⟨k, c, hk, hw, hv⟩
  · exact absurd h1 hu
  · have : k = o := by omega
    subst this
    exact ⟨c, hw, hv⟩

theorem Sim.ldn (S : Sim base w0 σ H w) {r ver : Nat} : ∀ {n p : Nat} {vs : List AV}, ldn H r ver n p = some vs → ∀ {b o m : Nat} {d : Int}, σ.fam b = some (r, d, m) → (o : Int) = d + p →
    (ver = σ.ver r → b = σ.canon r) → ∃ cs, w.rangeAt b o cs ∧ cs.length = n ∧ RelVs σ vs cs := by
  intro n
  induction n with
  | zero => intro p vs h b o m d _ _ _; simp [AX.ldn_zero] at h; subst h; exact ⟨[], fun j v hj => by simp at hj, rfl, .nil⟩
  | succ n ih =>
    intro p vs h b o m d hf ho hc
    simp only [AX.ldn_succ, Option.bind_eq_some_iff, Option.map_eq_some_iff] at h
    obtain ⟨v, h1, vs', h2, rfl⟩ := h
    obtain ⟨_, c, hw, hv⟩ := S.ld h1 hf ho hc
    obtain ⟨cs, hr, hl, hs⟩ := ih h2 (b := b) (o := o + 1) hf (by omega) hc
    refine ⟨c :: cs, fun j u hj => ?_, by simp [hl], .cons hv hs⟩
    cases j with
    | zero => simp at hj; subst hj; simpa using hw
    | succ j => have := hr j u (by simpa using hj); rwa [show o + 1 + j = o + (j + 1) by omega] at this

theorem heap_setCell_same {w : World} {b o : Nat} {x : Value} {c : Array Value} {e : TypeId} {fz : Nat × Nat} (h : w.heap[b]? = some (.cells c e fz)) :
    (w.setCell ⟨b, o, none⟩ x).heap[b]? = some (.cells (c.setIfInBounds o x) e fz) := by
  simp [World.setCell, Array.getElem?_modify, h]

theorem Sim.st (S : Sim base w0 σ H w) {r p ver : Nat} {v : AV} {H' : AH} (h : st H r p ver v = some H') {b o n : Nat} {d : Int} (hf : σ.fam b = some (r, d, n)) (ho : (o : Int) = d + p)
    (hc : ver = σ.ver r → b = σ.canon r) {x : Value} (hx : RelV σ v x) :
    (w.cell? ⟨b, o, none⟩).isSome = true ∧ w.frozen? ⟨b, o, none⟩ = false ∧ x.oneCell' = true ∧ Sim base w0 σ H' (w.setCell ⟨b, o, none⟩ x) := by
  unfold AX.st at h
  split at h
  case h_2 => cases h
  rename_i cells v' stale ro hr
  split at h
  case isFalse => cases h
  rename_i hcond
  obtain ⟨hver, hro, hone⟩ := hcond
  obtain ⟨old, hold, rfl⟩ := Option.map_eq_some_iff.1 h
  obtain ⟨hp, hu⟩ := known_some hold
  have R := S.rows _ _ _ _ _ hr
  have hb : b = σ.canon r := hc (by rw [R.ver]; exact hver.symm)
  obtain ⟨c0, e0, fz0, hh, hsz, hfz⟩ := (R.all b d n hf).2.1
  have hfz := hfz hro
  subst hfz
  have hbase := (R.all b d n hf).1 hro
  have hcell : ∃ cv, w.cell? ⟨b, o, none⟩ = some cv := by
    obtain ⟨d', n', hf', hcell⟩ := R.new
    rw [← hb, hf] at hf'
    cases hf'
    rcases hcell p old hp with h1 | ⟨k, cv, hk, hw, _⟩
    · exact absurd h1 hu
    · have : k = o := by omega
      subst this
      exact ⟨cv, by rw [hb]; exact hw⟩
  obtain ⟨cv, hcv⟩ := hcell
  have hplt : p < cells.length := by
    rcases Nat.lt_or_ge p cells.length with h1 | h1
    · exact h1
    · rw [List.getElem?_eq_none h1] at hp; cases hp
  have hrlt : r < H.length := by
    rcases Nat.lt_or_ge r H.length with h1 | h1
    · exact h1
    · rw [List.getElem?_eq_none h1] at hr; cases hr
  -- other cells
  have hother : ∀ (b' : Nat) (k : Nat), (b' = b → k ≠ o) → (w.setCell ⟨b, o, none⟩ x).cell? ⟨b', k, none⟩ = w.cell? ⟨b', k, none⟩ := by
    intro b' k hk
    refine World.cell?_setCell_other _ _ _ _ (fun e => ?_)
    simp only [Addr.mk.injEq] at e
    exact hk e.1.symm e.2.1.symm
  have hblk : ∀ b', b' ≠ b → (w.setCell ⟨b, o, none⟩ x).heap[b']? = w.heap[b']? := fun b' hb' => Below.heap_setCell _ _ _ _ hb'
  have hsize : (w.setCell ⟨b, o, none⟩ x).heap.size = w.heap.size := by simp [World.setCell]
  refine ⟨by rw [hcv]; rfl, frozen_of hh, hx.oneCell hone, ?_⟩
  refine ⟨S.below.setCell (p := ⟨b, o, none⟩) hbase x, by rw [hsize]; exact S.size, ?_, ?_, ?_, ?_, fun r g c h => S.gvars r g c (gv_set h),
    S.loops_of (.refl σ) (KeepsOthers.setCell w _ x).same (fun _ _ _ _ h => loop_set h), S.oths_of (fun _ _ h => h) (KeepsOthers.setCell w _ x).same, S.minj, S.iters_of (.refl σ) (KeepsOthers.setCell w _ x).same (fun _ _ _ h => iter_set h)⟩
  · intro b' r' d' n' h'
    rw [hsize, List.length_set]; exact S.lt b' r' d' n' h'
  · intro r' b' h'
    rw [hsize, List.length_set]; exact S.mlt r' b' h'
  · intro r' cells' ver' stale' ro' h'
    rw [List.getElem?_set] at h'
    split at h'
    · rename_i e; subst e
      cases h'
      refine ⟨R.ver, by rw [List.length_set]; exact R.fin, ?_, ?_⟩
      · refine ⟨d, n, by rw [← hb]; exact hf, fun q u hq => ?_⟩
        rw [List.getElem?_set] at hq
        split at hq
        · rename_i e; subst e
          cases hq
          exact .inr ⟨o, x, by rw [← ho], by rw [← hb]; exact World.cell?_setCell_same _ _ _ hcv, hx⟩
        · rename_i hne
          obtain ⟨d', n', hf', hcell⟩ := R.new
          rw [← hb, hf] at hf'
          cases hf'
          exact (hcell q u hq).mono (.refl σ) (fun k hk => hother _ _ (fun _ e => hne (by omega)))
      · intro b' d' n' h'
        obtain ⟨h1, ⟨c1, e1, f1, g1, g2, g3⟩, h3⟩ := R.all b' d' n' h'
        refine ⟨h1, ?_, ?_⟩
        · by_cases hbb : b' = b
          · subst hbb
            rw [hf] at h'; cases h'
            exact ⟨_, _, _, heap_setCell_same hh, by simp [hsz], fun _ => rfl⟩
          · exact ⟨c1, e1, f1, by rw [hblk _ hbb]; exact g1, g2, g3⟩
        · intro q u hq hu'
          have hqp : q ≠ p := by omega
          rw [List.getElem?_set_ne (Ne.symm hqp)] at hu'
          refine (h3 q u (by omega) hu').mono (.refl σ) (fun k hk => hother _ _ (fun e e' => ?_))
          subst e
          rw [hf] at h'; cases h'
          omega
    · rename_i hne
      have R' := S.rows _ _ _ _ _ h'
      have hfam : ∀ b' d' n', σ.fam b' = some (r', d', n') → b' ≠ b := fun b' d' n' h1 e => by
        subst e; rw [hf] at h1; cases h1; exact hne rfl
      refine ⟨R'.ver, R'.fin, ?_, ?_⟩
      · obtain ⟨d', n', hf', hcell⟩ := R'.new
        exact ⟨d', n', hf', fun q u hq => (hcell q u hq).mono (.refl σ) (fun k _ => hother _ _ (fun e => absurd e (hfam _ _ _ hf')))⟩
      · intro b' d' n' h1
        obtain ⟨g1, ⟨c1, e1, f1, g2, g3, g4⟩, g5⟩ := R'.all b' d' n' h1
        exact ⟨g1, ⟨c1, e1, f1, by rw [hblk _ (hfam _ _ _ h1)]; exact g2, g3, g4⟩, fun q u hq hu' => (g5 q u hq hu').mono (.refl σ) (fun k _ => hother _ _ (fun e => absurd e (hfam _ _ _ h1)))⟩
  · intro r' l h'
    rw [List.getElem?_set] at h'
    split at h'
    · rename_i e; subst e; cases h'
    · obtain ⟨b', es, clock, h1, h2, h3, h4⟩ := (S.maps _ _ h').at_
      refine ⟨b', es, clock, h1, h2, ?_, h4⟩
      rw [hblk]
      · exact h3
      · rintro rfl
        rw [hh] at h3; cases h3

theorem Sim.stn {r ver : Nat} : ∀ {vs : List AV} {cs : List Value} {p : Nat} {H H' : AH} {w : World}, Sim base w0 σ H w → stn H r ver vs p = some H' → RelVs σ vs cs → ∀ {b o m : Nat} {d : Int}, σ.fam b = some (r, d, m) → (o : Int) = d + p →
    (ver = σ.ver r → b = σ.canon r) → w.there b o cs.length ∧ (∀ c ∈ cs, c.oneCell' = true) ∧ Sim base w0 σ H' (w.setCells b o cs)
  | [], _, p, H, H', w, S, h, .nil, b, o, m, d, _, _, _ => by
    simp [AX.stn_nil] at h; subst h
    exact ⟨fun j hj => by simp at hj, by simp, S⟩
  | v :: vs, _, p, H, H', w, S, h, .cons (c := c) (cs := cs) h1 h2, b, o, m, d, hf, ho, hc => by
    simp only [AX.stn_cons, Option.bind_eq_some_iff] at h
    obtain ⟨H1, e1, e2⟩ := h
    obtain ⟨g1, g2, g3, S1⟩ := S.st e1 hf ho hc h1
    obtain ⟨k1, k2, k3⟩ := Sim.stn S1 e2 h2 (b := b) (o := o + 1) hf (by omega) hc
    refine ⟨fun j hj => ?_, fun x hx => ?_, ?_⟩
    · cases j with
      | zero => exact ⟨by simpa using g1, by simpa using g2⟩
      | succ j =>
        have := k1 j (by simpa using hj)
        rw [World.frozen?_setCell, World.cell?_setCell_other _ _ _ _ (by simp; omega), show o + 1 + j = o + (j + 1) by omega] at this
        exact this
    · rcases List.mem_cons.1 hx with e | e
      · subst e; exact g3
      · exact k2 x e
    · exact k3

/-! ### A new row -/
def Inj.new (σ : Inj) (r b : Nat) (d : Int) (n v m : Nat) : Inj :=
  { fin := fun x => if x = r then m else σ.fin x, canon := fun x => if x = r then b else σ.canon x, fam := fun x => if x = b then some (r, d, n) else σ.fam x, ver := fun x => if x = r then v else σ.ver x, mapAt := σ.mapAt, oth := σ.oth }

theorem Sim.le_new (S : Sim base w0 σ H w) (n m : Nat) : σ.le (σ.new H.length w.heap.size 0 n 0 m) := by
  refine ⟨fun b r d m h => ?_, fun b r d m h _ => ?_, fun r b h => h, fun r b h => h⟩
  · have := S.lt b r d m h
    simp only [Inj.new]
    rw [if_neg (by omega), if_neg (by omega), if_neg (by omega)]
    exact ⟨h, Nat.le_refl _, fun _ => rfl⟩
  · have := S.lt b r d m h
    simp only [Inj.new]
    rw [if_neg (by omega)]

theorem Sim.drew (S : Sim base w0 σ H w) : Sim base w0 σ H w.drew :=
  ⟨S.below.drew, S.size, S.lt, S.mlt, fun r c v s o h =>
    let R := S.rows r c v s o h
    ⟨R.ver, R.fin, R.new, R.all⟩, fun r l h => ⟨(S.maps r l h).at_⟩, S.gvars,
    S.loops_of (.refl σ) (fun _ _ h _ => h) (fun _ _ _ _ h => h), S.oths_of (fun _ _ h => h) (fun _ _ h _ => h), S.minj, S.iters_of (.refl σ) (fun _ _ h _ => h) (fun _ _ _ h => h)⟩

theorem Sim.alloc (S : Sim base w0 σ H w) {cells : List AV} {C : Array Value} (e : TypeId) (stale : Nat) (hc : ∀ (p : Nat) (v : AV), cells[p]? = some v → v ≠ .undef → ∃ c : Value, C[p]? = some c ∧ RelV σ v c) :
    Sim base w0 (σ.new H.length w.heap.size 0 C.size 0 cells.length) (H ++ [.row cells 0 stale false]) (w.alloc (.cells C e)) := by
  have hle := S.le_new C.size cells.length
  have hnew : (w.alloc (.cells C e)).heap[w.heap.size]? = some (.cells C e (0, 0)) := by
    show (w.heap.push _)[w.heap.size]? = _
    simp
  have hold : ∀ b, b < w.heap.size → (w.alloc (.cells C e)).heap[b]? = w.heap[b]? := fun b hb => Below.heap_alloc _ _ _ hb
  have hcell : ∀ b k, b < w.heap.size → (w.alloc (.cells C e)).cell? ⟨b, k, none⟩ = w.cell? ⟨b, k, none⟩ := fun b k hb => World.cell?_of_block (w := w) (hold b hb)
  have hsize : (w.alloc (.cells C e)).heap.size = w.heap.size + 1 := by
    show (w.heap.push _).size = _
    simp
  have hcl : ∀ (p : Nat) (v : AV), cells[p]? = some v → CellAt (σ.new H.length w.heap.size 0 C.size 0 cells.length) (w.alloc (.cells C e)) w.heap.size (0 + (p : Int)) v := by
    intro p v hp
    by_cases hu : v = .undef
    · exact .inl hu
    · obtain ⟨c, h1, h2⟩ := hc p v hp hu
      exact .inr ⟨p, c, by omega, by rw [cell_of hnew]; exact h1, h2.mono hle⟩
  refine ⟨S.below.alloc S.size _, by rw [hsize]; have := S.size; omega, ?_, ?_, ?_, ?_, fun r g c h => (S.gvars r g c (gv_push h)).mono hle,
    S.loops_of hle (KeepsOthers.alloc w _).same (fun _ _ _ _ h => loop_push h), S.oths_of (fun _ _ h => h) (KeepsOthers.alloc w _).same, S.minj, S.iters_of hle (KeepsOthers.alloc w _).same (fun _ _ _ h => iter_push h)⟩
  · intro b r d n h
    simp only [Inj.new] at h
    rw [List.length_append, hsize]
    split at h
    · cases h; simp_all
    · have := S.lt b r d n h; simp; omega
  · intro r b h
    have := S.mlt r b h
    rw [List.length_append, hsize]; simp; omega
  · intro r cells' ver' stale' ro' h
    rcases Nat.lt_or_ge r H.length with hr | hr
    · rw [List.getElem?_append_left hr] at h
      have R := S.rows _ _ _ _ _ h
      refine ⟨by simp only [Inj.new]; rw [if_neg (by omega)]; exact R.ver, by simp only [Inj.new]; rw [if_neg (by omega)]; exact R.fin, ?_, ?_⟩
      · obtain ⟨d, n, hf, hcell'⟩ := R.new
        have hb := (S.lt _ _ _ _ hf).2
        refine ⟨d, n, ?_, ?_⟩
        · simp only [Inj.new]; rw [if_neg (by omega : ¬ r = H.length), if_neg (by omega)]; exact hf
        · intro p v hp
          simp only [Inj.new]; rw [if_neg (by omega : ¬ r = H.length)]
          exact (hcell' p v hp).mono hle (fun k _ => hcell _ _ hb)
      · intro b d n hf
        simp only [Inj.new] at hf
        split at hf
        · cases hf; omega
        · have hb := (S.lt _ _ _ _ hf).2
          obtain ⟨g1, ⟨c1, e1, f1, g2, g3, g4⟩, g5⟩ := R.all b d n hf
          exact ⟨g1, ⟨c1, e1, f1, by rw [hold _ hb]; exact g2, g3, g4⟩, fun p v hp hv => (g5 p v hp hv).mono hle (fun k _ => hcell _ _ hb)⟩
    · rw [List.getElem?_append_right hr] at h
      have hr0 : r = H.length := by
        rcases Nat.lt_or_ge (r - H.length) 1 with h1 | h1
        · omega
        · rw [List.getElem?_eq_none (by simpa using h1)] at h; cases h
      subst hr0
      simp at h
      obtain ⟨rfl, rfl, rfl, rfl⟩ := h
      refine ⟨by simp [Inj.new], by simp [Inj.new], ?_, ?_⟩
      · refine ⟨0, C.size, by simp [Inj.new], fun p v hp => ?_⟩
        have := hcl p v hp
        simpa [Inj.new] using this
      · intro b d n hf
        simp only [Inj.new] at hf
        split at hf
        · rename_i hb; subst hb
          cases hf
          exact ⟨fun _ => S.size, ⟨C, e, (0, 0), hnew, rfl, fun _ => rfl⟩, fun p v _ hv => hcl p v hv⟩
        · have := S.lt _ _ _ _ hf; omega
  · intro r l h
    rcases Nat.lt_or_ge r H.length with hr | hr
    · rw [List.getElem?_append_left hr] at h
      obtain ⟨b, es, clock, h1, h2, h3, h4⟩ := (S.maps _ _ h).at_
      have hb := (S.mlt _ _ h1).2
      have hre : ∀ {l es}, RelEs σ l es → RelEs (σ.new H.length w.heap.size 0 C.size 0 cells.length) l es := by
        intro l
        induction l with
        | nil => intro es h; cases es <;> simp_all [RelEs]
        | cons x l ih => intro es h; cases es with
          | nil => simp [RelEs] at h
          | cons y es => exact ⟨h.1.mono hle, h.2.1.mono hle, ih h.2.2⟩
      exact ⟨b, es, clock, h1, h2, by rw [hold _ hb]; exact h3, hre h4⟩
    · rw [List.getElem?_append_right hr] at h
      rcases Nat.lt_or_ge (r - H.length) 1 with h1 | h1
      · have : r - H.length = 0 := by omega
        rw [this] at h; simp at h
      · rw [List.getElem?_eq_none (by simpa using h1)] at h; cases h

/-! ### A row that grows -/
theorem RelEs.mono {σ σ' : Inj} (h : σ.le σ') : ∀ {l : List (AV × AV)} {es : List MapEntry}, RelEs σ l es → RelEs σ' l es
  | [], [], _ => trivial
  | [], _ :: _, h1 => h1.elim
  | _ :: _, [], h1 => h1.elim
  | _ :: _, _ :: _, h1 => ⟨h1.1.mono h, h1.2.1.mono h, RelEs.mono h h1.2.2⟩

theorem heap_setCells_other {b b' : Nat} (h : b' ≠ b) : ∀ (cs : List Value) (o : Nat) (w : World), (w.setCells b o cs).heap[b']? = w.heap[b']?
  | [], _, _ => rfl
  | c :: cs, o, w => by rw [World.setCells, heap_setCells_other h cs, Below.heap_setCell _ _ _ _ h]
theorem heap_setCells_same {b : Nat} : ∀ (cs : List Value) (o : Nat) (w : World) (c : Array Value) (e : TypeId) (fz : Nat × Nat), w.heap[b]? = some (.cells c e fz) →
    ∃ c' : Array Value, (w.setCells b o cs).heap[b]? = some (.cells c' e fz) ∧ c'.size = c.size
  | [], _, _, c, _, _, h => ⟨c, h, rfl⟩
  | x :: cs, o, w, c, e, fz, h => by
    obtain ⟨c', h1, h2⟩ := heap_setCells_same cs (o + 1) (w.setCell ⟨b, o, none⟩ x) _ e fz (heap_setCell_same h)
    exact ⟨c', h1, by simpa using h2⟩
theorem size_setCells {b : Nat} : ∀ (cs : List Value) (o : Nat) (w : World), (w.setCells b o cs).heap.size = w.heap.size
  | [], _, _ => rfl
  | c :: cs, o, w => by rw [World.setCells, size_setCells cs]; simp [World.setCell]
theorem below_setCells {b : Nat} (hb : base ≤ b) : ∀ (cs : List Value) (o : Nat) (w : World), Below base w0 w → Below base w0 (w.setCells b o cs)
  | [], _, _, h => h
  | c :: cs, o, _w, h => below_setCells hb cs _ _ (h.setCell (p := ⟨b, o, none⟩) hb c)

theorem Sim.grow_core (S : Sim base w0 σ H w) {r : Nat} {cells cells' : List AV} {v stale : Nat} (hr : H[r]? = some (.row cells v stale false)) {w' : World} (hbelow : Below base w0 w') (hsz : w.heap.size ≤ w'.heap.size)
    {b n : Nat} {d : Int} (e : Nat) (hb : σ.fam b = some (r, d, n) ∨ b = w.heap.size) (hb' : b < w'.heap.size) (hbase : base ≤ b) (hblk : ∃ c t, w'.heap[b]? = some (.cells c t (0, 0)) ∧ c.size = n)
    (hoth : ∀ b', b' < w.heap.size → b' ≠ b → w'.heap[b']? = w.heap[b']?) (hkeep : σ.fam b = some (r, d, n) → ∀ k : Nat, (k : Int) < d + e → w'.cell? ⟨b, k, none⟩ = w.cell? ⟨b, k, none⟩)
    (hpre : ∀ (p : Nat) (x : AV), p < e → cells'[p]? = some x → x = .undef ∨ cells[p]? = some x)
    (hnew : ∀ (p : Nat) (x : AV), cells'[p]? = some x → CellAt σ w' b (d + p) x) :
    σ.le (σ.new r b d n (v + 1) cells'.length) ∧ Sim base w0 (σ.new r b d n (v + 1) cells'.length) (H.set r (.row cells' (v + 1) (min stale e) false)) w' := by
  have R := S.rows _ _ _ _ _ hr
  have hrlt : r < H.length := by
    rcases Nat.lt_or_ge r H.length with h1 | h1
    · exact h1
    · rw [List.getElem?_eq_none h1] at hr; cases hr
  have hbsz : ∀ b' r' d' n', σ.fam b' = some (r', d', n') → b' < w.heap.size := fun b' r' d' n' h => (S.lt _ _ _ _ h).2
  have hbne : ∀ b' r' d' n', σ.fam b' = some (r', d', n') → r' ≠ r → b' ≠ b := by
    intro b' r' d' n' h hne e1
    subst e1
    rcases hb with h2 | h2
    · rw [h] at h2; cases h2; exact hne rfl
    · have := hbsz _ _ _ _ h; omega
  have hle : σ.le (σ.new r b d n (v + 1) cells'.length) := by
    refine ⟨fun b' r' d' n' h => ?_, fun b' r' d' n' h => ?_, fun r b h => h, fun r b h => h⟩
    rotate_left
    · simp only [Inj.new]
      split
      · rename_i e1; subst e1; rw [R.ver]; omega
      · intro _; rfl
    simp only [Inj.new]
    refine ⟨?_, ?_, ?_⟩
    · split
      · rename_i e1; subst e1
        rcases hb with h2 | h2
        · rw [← h2, ← h]
        · have := hbsz _ _ _ _ h; omega
      · exact h
    · split
      · rename_i e1; subst e1; rw [R.ver]; omega
      · exact Nat.le_refl _
    · split
      · rename_i e1; subst e1; rw [R.ver]; omega
      · intro _; rfl
  have hko : ∀ (k : Nat) (o : Obj), w.heap[k]? = some o → o.isCells = false → w'.heap[k]? = some o := by
    intro k o hk ho
    have hkl := (Array.getElem?_eq_some_iff.1 hk).1
    rw [hoth k hkl]
    · exact hk
    · rintro rfl
      rcases hb with h5 | h5
      · obtain ⟨_, ⟨c2, e2, f2, g2, _, _⟩, _⟩ := R.all _ _ _ h5
        rw [hk] at g2; cases g2; cases ho
      · omega
  refine ⟨hle, hbelow, Nat.le_trans S.size hsz, ?_, ?_, ?_, ?_, fun r g c h => (S.gvars r g c (gv_set h)).mono hle,
    S.loops_of hle hko (fun _ _ _ _ h => loop_set h), S.oths_of (fun _ _ h => h) hko, S.minj, S.iters_of hle hko (fun _ _ _ h => iter_set h)⟩
  · intro b' r' d' n' h
    rw [List.length_set]
    simp only [Inj.new] at h
    split at h
    · rename_i e1; subst e1; cases h; exact ⟨hrlt, hb'⟩
    · have := S.lt _ _ _ _ h; exact ⟨this.1, by omega⟩
  · intro r' b' h
    rw [List.length_set]
    have := S.mlt _ _ h; exact ⟨this.1, by omega⟩
  · intro r' c1 v1 s1 o1 h
    rw [List.getElem?_set] at h
    split at h
    · rename_i e1; subst e1
      cases h
      refine ⟨by simp [Inj.new], by simp [Inj.new], ?_, ?_⟩
      · exact ⟨d, n, by simp [Inj.new], fun p x hp => by
          have := (hnew p x hp).mono hle (fun _ _ => rfl)
          simpa [Inj.new] using this⟩
      · intro b' d' n' hf
        simp only [Inj.new] at hf
        split at hf
        · rename_i e1; subst e1
          cases hf
          refine ⟨fun _ => hbase, ?_, fun p x _ hp => (hnew p x hp).mono hle (fun _ _ => rfl)⟩
          obtain ⟨c, t, h1, h2⟩ := hblk
          exact ⟨c, t, (0, 0), h1, h2, fun _ => rfl⟩
        · rename_i hne
          obtain ⟨g1, ⟨c2, e2, f2, g2, g3, g4⟩, g5⟩ := R.all b' d' n' hf
          refine ⟨g1, ⟨c2, e2, f2, by rw [hoth _ (hbsz _ _ _ _ hf) hne]; exact g2, g3, g4⟩, fun p x hp hx => ?_⟩
          rcases hpre p x (by omega) hx with h1 | h1
          · exact .inl h1
          · exact (g5 p x (by omega) h1).mono hle (fun k _ => World.cell?_of_block (w := w) (hoth _ (hbsz _ _ _ _ hf) hne))
    · rename_i hne
      have R' := S.rows _ _ _ _ _ h
      refine ⟨?_, ?_, ?_, ?_⟩
      · simp only [Inj.new]; rw [if_neg (Ne.symm hne)]; exact R'.ver
      · simp only [Inj.new]; rw [if_neg (Ne.symm hne)]; exact R'.fin
      · obtain ⟨d', n', hf', hcell⟩ := R'.new
        have hx := hbne _ _ _ _ hf' (Ne.symm hne)
        refine ⟨d', n', ?_, fun p x hp => ?_⟩
        · simp only [Inj.new]; rw [if_neg (Ne.symm hne), if_neg hx]; exact hf'
        · simp only [Inj.new]; rw [if_neg (Ne.symm hne)]
          exact (hcell p x hp).mono hle (fun k _ => World.cell?_of_block (w := w) (hoth _ (hbsz _ _ _ _ hf') hx))
      · intro b' d' n' hf
        simp only [Inj.new] at hf
        split at hf
        · cases hf; exact absurd rfl hne
        · rename_i hne'
          obtain ⟨g1, ⟨c2, e2, f2, g2, g3, g4⟩, g5⟩ := R'.all b' d' n' hf
          exact ⟨g1, ⟨c2, e2, f2, by rw [hoth _ (hbsz _ _ _ _ hf) hne']; exact g2, g3, g4⟩, fun p x hp hx => (g5 p x hp hx).mono hle (fun k _ => World.cell?_of_block (w := w) (hoth _ (hbsz _ _ _ _ hf) hne'))⟩
  · intro r' l h
    rw [List.getElem?_set] at h
    split at h
    · cases h
    · obtain ⟨b', es, clock, h1, h2, h3, h4⟩ := (S.maps _ _ h).at_
      refine ⟨b', es, clock, h1, h2, ?_, h4.mono hle⟩
      have hbb : b' ≠ b := by
        rintro rfl
        rcases hb with h5 | h5
        · obtain ⟨_, ⟨c2, e2, f2, g2, _, _⟩, _⟩ := R.all _ _ _ h5
          rw [h3] at g2; cases g2
        · have := (S.mlt _ _ h1).2; omega
      rw [hoth _ (S.mlt _ _ h1).2 hbb]; exact h3

theorem grow_some {H H' : AH} {r off n ver v' : Nat} {vs : List AV} (h : grow H r off n ver vs = some (H', v')) : ∃ cells v stale, H[r]? = some (.row cells v stale false) ∧ off + n ≤ cells.length ∧ (v = ver ∨ off + n ≤ stale) ∧
    H' = H.set r (.row (List.replicate off .undef ++ (cells.drop off).take n ++ vs) (v + 1) (min stale (off + n)) false) ∧ v' = v + 1 := by
  unfold grow at h
  split at h
  case h_2 => cases h
  rename_i cells v stale ro hr
  split at h
  case isFalse => cases h
  rename_i hc
  obtain ⟨rfl, h1, h2⟩ := hc
  cases h
  exact ⟨cells, v, stale, hr, h1, h2, rfl, rfl⟩

theorem grown_get {cells vs : List AV} {off n : Nat} (hl : off + n ≤ cells.length) (p : Nat) (x : AV) (h : (List.replicate off AV.undef ++ (cells.drop off).take n ++ vs)[p]? = some x) :
    (p < off ∧ x = .undef) ∨ (off ≤ p ∧ p < off + n ∧ cells[p]? = some x) ∨ (off + n ≤ p ∧ vs[p - (off + n)]? = some x) := by
  have hlen : ((cells.drop off).take n).length = n := by simp; omega
  rcases Nat.lt_or_ge p off with h1 | h1
  · left
    rw [List.append_assoc, List.getElem?_append_left (by simpa using h1)] at h
    simp [h1] at h
    exact ⟨h1, h.symm⟩
  · rcases Nat.lt_or_ge p (off + n) with h2 | h2
    · right; left
      rw [List.append_assoc, List.getElem?_append_right (by simpa using h1), List.getElem?_append_left (by rw [hlen]; simp; omega)] at h
      refine ⟨h1, h2, ?_⟩
      rw [List.getElem?_take_of_lt (by simp; omega), List.getElem?_drop] at h
      simpa [show off + (p - off) = p by omega] using h
    · right; right
      rw [List.getElem?_append_right (by simp; omega)] at h
      refine ⟨h2, ?_⟩
      simpa [hlen, show p - (off + n) = p - (off + min n (cells.length - off)) by omega] using h

theorem grown_len {cells vs : List AV} {off n : Nat} (hl : off + n ≤ cells.length) : (List.replicate off AV.undef ++ (cells.drop off).take n ++ vs).length = off + (n + vs.length) := by
  simp; omega

theorem Sim.grow_in (S : Sim base w0 σ H w) {r off n ver v' : Nat} {vs : List AV} {H' : AH} (h : grow H r off n ver vs = some (H', v')) {b o m : Nat} {d : Int} (hf : σ.fam b = some (r, d, m)) (ho : (o : Int) = d + off)
    (hc : ver = σ.ver r → b = σ.canon r) {cs : List Value} (hcs : RelVs σ vs cs) (hm : o + (n + cs.length) ≤ m) :
    w.there b (o + n) cs.length ∧ σ.le (σ.new r b d m v' (off + (n + vs.length))) ∧ Sim base w0 (σ.new r b d m v' (off + (n + vs.length))) H' (w.setCells b (o + n) cs) := by
  obtain ⟨cells, v, stale, hr, h1, h2, rfl, rfl⟩ := grow_some h
  have R := S.rows _ _ _ _ _ hr
  obtain ⟨g1, ⟨c0, e0, f0, hh, hsz, hfz⟩, g5⟩ := R.all b d m hf
  have := hfz rfl
  subst this
  have hthere : w.there b (o + n) cs.length := fun j hj => ⟨by rw [cell_of hh, Array.getElem?_eq_getElem (by omega)]; rfl, frozen_of hh⟩
  obtain ⟨c1, hh1, hsz1⟩ := heap_setCells_same cs (o + n) w c0 e0 (0, 0) hh
  have hbw := (S.lt _ _ _ _ hf).2
  refine ⟨hthere, ?_⟩
  rw [← grown_len h1]
  refine S.grow_core (cells' := List.replicate off .undef ++ (cells.drop off).take n ++ vs) hr (below_setCells (g1 rfl) cs _ _ S.below) (by rw [size_setCells]; exact Nat.le_refl _) (off + n) (.inl hf) (by rw [size_setCells]; exact hbw) (g1 rfl)
    ⟨c1, e0, hh1, by omega⟩ (fun b' _ hne => heap_setCells_other hne _ _ _) (fun _ k hk => World.cell?_setCells_out b cs _ _ _ (fun _ _ => .inl (by show k < o + n; omega))) ?_ ?_
  · intro p x hp hx
    rcases grown_get h1 p x hx with h3 | h3 | h3
    · exact .inl h3.2
    · exact .inr h3.2.2
    · omega
  · intro p x hx
    rcases grown_get h1 p x hx with h3 | h3 | h3
    · exact .inl h3.2
    · have hat : CellAt σ w b (d + p) x := by
        rcases h2 with e | e
        · have hb := hc (by rw [R.ver]; exact e.symm)
          obtain ⟨d', n', hf', hcell⟩ := R.new
          rw [← hb, hf] at hf'
          cases hf'
          rw [hb]; exact hcell p x h3.2.2
        · exact g5 p x (by omega) h3.2.2
      exact hat.mono (.refl σ) (fun k hk => World.cell?_setCells_out b cs _ _ _ (fun _ _ => .inl (by show k < o + n; omega)))
    · have hx : ∃ c, cs[p - (off + n)]? = some c ∧ RelV σ x c := hcs.get h3.2
      obtain ⟨c, hc1, hc2⟩ := hx
      have hlt : p - (off + n) < cs.length := by
        rcases Nat.lt_or_ge (p - (off + n)) cs.length with h4 | h4
        · exact h4
        · rw [List.getElem?_eq_none h4] at hc1; cases hc1
      refine .inr ⟨o + n + (p - (off + n)), c, by omega, ?_, hc2⟩
      rw [World.cell?_setCells_in b cs (o + n) w (fun j hj => (hthere j hj).1) _ hlt]
      rw [List.getElem?_eq_getElem hlt] at hc1
      exact hc1

theorem Sim.grow_out (S : Sim base w0 σ H w) {r off n ver v' : Nat} {vs : List AV} {H' : AH} (h : grow H r off n ver vs = some (H', v')) {b o m : Nat} {d : Int} (hf : σ.fam b = some (r, d, m)) (ho : n ≠ 0 → (o : Int) = d + off ∧ o + n ≤ m)
    (hc : ver = σ.ver r → b = σ.canon r) {cs : List Value} (hcs : RelVs σ vs cs) :
    ∃ olds : List Value, olds.length = n ∧ w.rangeAt b o olds ∧ ∀ (rest : List Value) (e : TypeId) (C : Array Value), C.toList = olds ++ cs ++ rest →
      σ.le (σ.new r w.heap.size (-(off : Int)) C.size v' (off + (n + vs.length))) ∧ Sim base w0 (σ.new r w.heap.size (-(off : Int)) C.size v' (off + (n + vs.length))) H' (w.drew.alloc (.cells C e)) := by
  obtain ⟨cells, v, stale, hr, h1, h2, rfl, rfl⟩ := grow_some h
  have R := S.rows _ _ _ _ _ hr
  obtain ⟨g1, ⟨c0, e0, f0, hh, hsz, hfz⟩, g5⟩ := R.all b d m hf
  have hol : ((c0.toList.drop o).take n).length = n := by
    by_cases hn : n = 0
    · subst hn; simp
    · have := (ho hn).2; simp; omega
  have hget : ∀ j, j < n → ((c0.toList.drop o).take n)[j]? = c0[o + j]? := fun j hj => by
    rw [List.getElem?_take_of_lt hj, List.getElem?_drop, Array.getElem?_toList]
  refine ⟨(c0.toList.drop o).take n, hol, ?_, ?_⟩
  · intro j u hj
    have hlt : j < n := by
      rcases Nat.lt_or_ge j n with h4 | h4
      · exact h4
      · rw [List.getElem?_eq_none (by omega)] at hj; cases hj
    rw [hget j hlt] at hj
    rw [cell_of hh]; exact hj
  · intro rest e C hC
    have hnew : (w.drew.alloc (.cells C e)).heap[w.heap.size]? = some (.cells C e (0, 0)) := by
      show (w.heap.push _)[w.heap.size]? = _
      simp
    have hsize : (w.drew.alloc (.cells C e)).heap.size = w.heap.size + 1 := by
      show (w.heap.push _).size = _
      simp
    rw [← grown_len h1]
    refine S.grow_core (cells' := List.replicate off .undef ++ (cells.drop off).take n ++ vs) hr (S.below.drew.alloc (by show base ≤ w.heap.size; exact S.size) _) (by rw [hsize]; omega) (off + n) (.inr rfl) (by rw [hsize]; omega) S.size
      ⟨C, e, hnew, rfl⟩ (fun b' hb' _ => Below.heap_alloc _ _ _ hb') (fun hf2 => by have := (S.lt _ _ _ _ hf2).2; omega) ?_ ?_
    · intro p x hp hx
      rcases grown_get h1 p x hx with h3 | h3 | h3
      · exact .inl h3.2
      · exact .inr h3.2.2
      · omega
    · intro p x hx
      rcases grown_get h1 p x hx with h3 | h3 | h3
      · exact .inl h3.2
      · have hn0 : n ≠ 0 := by omega
        obtain ⟨ho1, ho2⟩ := ho hn0
        have hat : CellAt σ w b (d + p) x := by
          rcases h2 with e | e
          · have hb := hc (by rw [R.ver]; exact e.symm)
            obtain ⟨d', n', hf', hcell⟩ := R.new
            rw [← hb, hf] at hf'
            cases hf'
            rw [hb]; exact hcell p x h3.2.2
          · exact g5 p x (by omega) h3.2.2
        rcases hat with h4 | ⟨k, c, hk, hw, hv⟩
        · exact .inl h4
        · refine .inr ⟨p - off, c, by omega, ?_, hv⟩
          rw [cell_of hnew, ← Array.getElem?_toList, hC, List.append_assoc, List.getElem?_append_left (by omega), hget _ (by omega)]
          rw [cell_of hh] at hw
          rw [show o + (p - off) = k by omega]; exact hw
      · have hx : ∃ c, cs[p - (off + n)]? = some c ∧ RelV σ x c := hcs.get h3.2
        obtain ⟨c, hc1, hc2⟩ := hx
        have hlt : p - (off + n) < cs.length := by
          rcases Nat.lt_or_ge (p - (off + n)) cs.length with h4 | h4
          · exact h4
          · rw [List.getElem?_eq_none h4] at hc1; cases hc1
        refine .inr ⟨p - off, c, by omega, ?_, hc2⟩
        rw [cell_of hnew, ← Array.getElem?_toList, hC, List.append_assoc, List.getElem?_append_right (by omega), hol, List.getElem?_append_left (by omega), show p - off - n = p - (off + n) by omega]
        exact hc1
end
end Go.Proofs.Ytbimapbcpmeooaa.AX

/- A plain reading of runs: operations that leave memory alone. -/
namespace Go.Proofs.Ytbimapbcpmeooaa.AX
open Go Go.RowKit

structure TI where
  desc : TypeDesc
  size : Nat
  bytes : Nat
  zero : List AV

def tiOf (P : Program) (t : TypeId) : Option TI :=
  match P.underlying t, P.info? t with
  | some d, some i =>
    match i.zero with
    | some z => if z.cells.size = i.size then some ⟨d, i.size, i.bytes, z.cells.toList.map (absV 2)⟩ else none
    | none => none
  | _, _ => none

theorem tiOf_some {P : Program} {t : TypeId} {I : TI} (h : tiOf P t = some I) : P.underlying t = some I.desc ∧ ∃ i z, P.info? t = some i ∧ i.zero = some z ∧ i.size = I.size ∧ i.bytes = I.bytes ∧ z.cells.size = I.size ∧ I.zero = z.cells.toList.map (absV 2) := by
  unfold tiOf at h
  split at h
  case h_2 => cases h
  rename_i d i h1 h2
  split at h
  case h_2 => cases h
  rename_i z h3
  split at h
  case isFalse => cases h
  rename_i h4
  cases h
  exact ⟨h1, i, z, h2, h3, rfl, rfl, h4, rfl⟩

def isAggD : TypeDesc → Bool
  | .struct _ | .array _ _ => true
  | _ => false

/-- A value out of its cells. -/
def mkVal (d : TypeDesc) (cells : List AV) : Option AV :=
  if isAggD d then some (.agg cells) else match cells with | [v] => some v | _ => none

def acells : AV → List AV
  | .agg cs => cs
  | v => [v]

def aBin (op : BinOp) (x y : AV) : Option AV :=
  match x, y with
  | .int k a, .int k' b =>
    match op with
    | .shl => if b < 0 then none else some (.int k (k.wrap (a * 2 ^ (min b.toNat k.bits))))
    | .shr => if b < 0 then none else some (.int k (a.fdiv (2 ^ (min b.toNat k.bits))))
    | _ =>
      if k = k' then
        match op with
        | .add => some (.int k (k.wrap (a + b)))
        | .sub => some (.int k (k.wrap (a - b)))
        | .mul => some (.int k (k.wrap (a * b)))
        | .quo => if b = 0 then none else some (.int k (k.wrap (a.tdiv b)))
        | .rem => if b = 0 then none else some (.int k (a.tmod b))
        | .and => some (.int k (k.wrap (BitVec.ofInt k.bits a &&& BitVec.ofInt k.bits b).toNat))
        | .or => some (.int k (k.wrap (BitVec.ofInt k.bits a ||| BitVec.ofInt k.bits b).toNat))
        | .xor => some (.int k (k.wrap (BitVec.ofInt k.bits a ^^^ BitVec.ofInt k.bits b).toNat))
        | .andNot => some (.int k (k.wrap (BitVec.ofInt k.bits a &&& ~~~BitVec.ofInt k.bits b).toNat))
        | .eql => some (.bool (a == b))
        | .neq => some (.bool (a != b))
        | .lss => some (.bool (a < b))
        | .leq => some (.bool (a ≤ b))
        | .gtr => some (.bool (a > b))
        | .geq => some (.bool (a ≥ b))
        | _ => none
      else none
  | .str a, .str b =>
    match op with
    | .add => if a.length + b.length ≤ 1073741824 then some (.str (a ++ b)) else none
    | .eql => some (.bool (a == b))
    | .neq => some (.bool !(a == b))
    | .lss => some (.bool (Op.bytesLess a b))
    | .leq => some (.bool (Op.bytesLess a b || a == b))
    | .gtr => some (.bool !(Op.bytesLess a b || a == b))
    | .geq => some (.bool !(Op.bytesLess a b))
    | _ => none
  | _, _ => none

theorem ba_toList (s : ByteArray) : s.toList = s.data.toList := by
  exact ByteArray.toList_eq s

section
variable {P : Program} {σ : Inj}

theorem aBin_sound {op : BinOp} {t : TypeId} {x y v : AV} {a b : Value} {X Y : Operand} (h : aBin op x y = some v) (hx : RelV σ x a) (hy : RelV σ y b) :
    ∃ c, RelV σ v c ∧ ∀ w, (do eqGuard op t X Y a b; binOp op t a b : Sem Value).run P w = .ok c w := by
  unfold aBin at h
  split at h
  case h_3 => cases h
  case h_1 k n k' m =>
    cases hx; cases hy
    have hg : ∀ w, (eqGuard op t X Y (.int k n) (.int k' m)).run P w = .ok () w := fun w => by
      unfold eqGuard
      cases op <;> rfl
    split at h
    · split at h
      · cases h
      · rename_i hb
        cases h
        exact ⟨_, .int _ _, fun w => by simp only [Sem.run_bind, hg, Result.andThen_ok, binOp, Op.shift, hb, if_false]; rfl⟩
    · split at h
      · cases h
      · rename_i hb
        cases h
        exact ⟨_, .int _ _, fun w => by simp only [Sem.run_bind, hg, Result.andThen_ok, binOp, Op.shift, hb, if_false]; rfl⟩
    · rename_i hs1 hs2
      split at h
      case isFalse => cases h
      rename_i hk
      subst hk
      cases op <;> simp only [reduceCtorEq] at h hs1 hs2 <;>
        first
        | (exact (hs1 rfl).elim)
        | (exact (hs2 rfl).elim)
        | (split at h
           · cases h
           · rename_i hb
             cases h
             exact ⟨_, .int _ _, fun w => by simp only [Sem.run_bind, hg, Result.andThen_ok, binOp, ne_eq, not_true_eq_false, if_false, Op.intDiv, hb]; rfl⟩)
        | (cases h
           first
           | exact ⟨_, .int _ _, fun w => by simp only [Sem.run_bind, hg, Result.andThen_ok, binOp, ne_eq, not_true_eq_false, if_false]; rfl⟩
           | exact ⟨_, .bool _, fun w => by simp only [Sem.run_bind, hg, Result.andThen_ok, binOp, ne_eq, not_true_eq_false, if_false]; rfl⟩)
  case h_2 p q =>
    cases hx with | str s => ?_
    cases hy with | str u => ?_
    have hg : ∀ w, (eqGuard op t X Y (.string s) (.string u)).run P w = .ok () w := fun w => by
      unfold eqGuard
      cases op <;> rfl
    have hb : ∀ w, (do eqGuard op t X Y (.string s) (.string u); binOp op t (.string s) (.string u) : Sem Value).run P w = (Op.stringOp op s u).run P w := fun w => by
      simp only [Sem.run_bind, hg, Result.andThen_ok]
      cases op <;> rfl
    cases op <;> simp only [reduceCtorEq] at h
    case add =>
      split at h
      case isFalse => cases h
      rename_i hl
      cases h
      refine ⟨.string (s ++ u), ?_, fun w => ?_⟩
      · have : (s ++ u).data.toList = s.data.toList ++ u.data.toList := by simp [ByteArray.data_append]
        rw [← this]; exact .str _
      · rw [hb]
        simp only [Op.stringOp]
        rw [if_neg]
        · rfl
        · have h1 : s.size = s.data.toList.length := by rfl
          have h2 : u.size = u.data.toList.length := by rfl
          have h3 : IntKind.i64.max = 9223372036854775807 := by rfl
          rw [h1, h2, h3]; omega
    all_goals
      cases h
      exact ⟨_, .bool _, fun w => by rw [hb]; simp only [Op.stringOp, ba_toList]; rfl⟩

/-- Comparisons that ask the type. -/
def aCmp (P : Program) (op : BinOp) (t : TypeId) (lit : Bool) (x y : AV) : Option AV :=
  let r : Option Bool := match P.underlying t, x, y with
    | some .bool, .bool a, .bool b => some (a == b)
    | some (.slice _), .slice r _ _ _ _ _, .slice none _ _ _ _ _ => some r.isNone
    | some (.slice _), .clip _ _ _ _ _, .slice none _ _ _ _ _ => some false
    | some (.pointer _), .nilptr, .nilptr => some true
    | some (.pointer _), .nilptr, .ptr _ _ _ => some false
    | some (.pointer _), .ptr _ _ _, .nilptr => some false
    | some (.map _ _), .nilmap, .nilmap => some true
    | some (.map _ _), .map _, .nilmap => some false
    | some (.func _ _ _), .nilfunc, .nilfunc => some true
    | some (.func _ _ _), .func _ _ _, .nilfunc => some false
    | some (.interface _), .iface _ _, .niliface => some false
    | some (.interface _), .niliface, .iface _ _ => some false
    | some (.interface _), .niliface, .niliface => if lit then some true else none
    | _, _, _ => none
  match op with
  | .eql => r.map .bool
  | .neq => r.map fun b => .bool (!b)
  | _ => none

def litOp : Operand → Bool
  | .const _ => true
  | _ => false

theorem equal_of {t : TypeId} {a b : Value} {r : Bool} {w : World} (h : ∀ d, (Op.equalIn (d + 1) t a b).run P w = .ok r w) (w' : World) (hw : w' = w := by rfl) : (Op.equal t a b).run P w' = .ok r w' := by
  subst hw; exact h 9999

theorem aCmp_eq {op : BinOp} {t : TypeId} {v : AV} {a b : Value} {X Y : Operand} {r : Bool} (hop : op = .eql ∨ op = .neq) (hg : ∀ w, (eqGuard op t X Y a b).run P w = .ok () w)
    (hb : ∀ w, (Op.equal t a b).run P w = .ok r w) (hbin : ∀ op, op = .eql ∨ op = .neq → binOp op t a b = (if op = .eql then (do pure (.bool (← Op.equal t a b))) else (do pure (.bool (!(← Op.equal t a b))))))
    (hv : v = .bool (if op = .eql then r else !r)) : ∃ c, RelV σ v c ∧ ∀ w, (do eqGuard op t X Y a b; binOp op t a b : Sem Value).run P w = .ok c w := by
  subst hv
  refine ⟨.bool (if op = .eql then r else !r), .bool _, fun w => ?_⟩
  simp only [Sem.run_bind, hg, Result.andThen_ok, hbin op hop]
  rcases hop with rfl | rfl <;> simp [hb]

theorem aCmp_sound {op : BinOp} {t : TypeId} {x y v : AV} {a b : Value} {X Y : Operand} (h : aCmp P op t (litOp X || litOp Y) x y = some v) (hx : RelV σ x a) (hy : RelV σ y b) :
    ∃ c, RelV σ v c ∧ ∀ w, (do eqGuard op t X Y a b; binOp op t a b : Sem Value).run P w = .ok c w := by
  have hop : op = .eql ∨ op = .neq := by
    unfold aCmp at h
    cases op <;> simp at h ⊢
  have hrun : ∃ r, (match P.underlying t, x, y with
    | some .bool, .bool a, .bool b => some (a == b)
    | some (.slice _), .slice r _ _ _ _ _, .slice none _ _ _ _ _ => some r.isNone
    | some (.slice _), .clip _ _ _ _ _, .slice none _ _ _ _ _ => some false
    | some (.pointer _), .nilptr, .nilptr => some true
    | some (.pointer _), .nilptr, .ptr _ _ _ => some false
    | some (.pointer _), .ptr _ _ _, .nilptr => some false
    | some (.map _ _), .nilmap, .nilmap => some true
    | some (.map _ _), .map _, .nilmap => some false
    | some (.func _ _ _), .nilfunc, .nilfunc => some true
    | some (.func _ _ _), .func _ _ _, .nilfunc => some false
    | some (.interface _), .iface _ _, .niliface => some false
    | some (.interface _), .niliface, .iface _ _ => some false
    | some (.interface _), .niliface, .niliface => if (litOp X || litOp Y) then some true else none
    | _, _, _ => none) = some r ∧ v = .bool (if op = .eql then r else !r) := by
    unfold aCmp at h
    rcases hop with rfl | rfl
    · obtain ⟨r, h1, h2⟩ := Option.map_eq_some_iff.1 h
      exact ⟨r, h1, by simp [h2]⟩
    · obtain ⟨r, h1, h2⟩ := Option.map_eq_some_iff.1 h
      exact ⟨r, h1, by simp [h2]⟩
  obtain ⟨r, hr, hv⟩ := hrun
  clear h
  split at hr
  case h_14 => cases hr
  all_goals rename_i hu
  all_goals cases hx
  all_goals cases hy
  case h_13 =>
    split at hr
    case isFalse => cases hr
    rename_i hl
    cases hr
    refine aCmp_eq (r := true) hop (fun w => ?_) (fun w => ?_) ?_ hv
    · simp only [eqGuard]
      have : (match X with | .const _ => true | _ => false) || (match Y with | .const _ => true | _ => false) = true := by
        cases X <;> cases Y <;> first | rfl | (simp [litOp] at hl)
      rcases hop with rfl | rfl <;> cases X <;> cases Y <;> first | rfl | (simp [litOp] at hl)
    · exact equal_of (fun d => by simp only [Op.equalIn, Sem.run_bind, run_underlying hu, Result.andThen_ok]; rfl) w
    · intro op hop; rcases hop with rfl | rfl <;> rfl
  all_goals try cases hr
  all_goals
    refine aCmp_eq hop (fun w => ?_) (fun w => ?_) ?_ hv
    · rcases hop with rfl | rfl <;> rfl
    · exact equal_of (fun d => by simp only [Op.equalIn, Sem.run_bind, run_underlying hu, Result.andThen_ok]; rfl) w
    · intro op hop; rcases hop with rfl | rfl <;> rfl
end
end Go.Proofs.Ytbimapbcpmeooaa.AX

/- A plain reading of runs: more operations that leave memory alone. -/
namespace Go.Proofs.Ytbimapbcpmeooaa.AX
open Go Go.RowKit

def AV.isU : AV → Bool
  | .undef => true
  | _ => false

section
variable {P : Program} {σ : Inj}

theorem RelV.cells {v : AV} {c : Value} (h : RelV σ v c) (hu : v.isU = false) : RelVs σ (acells v) c.cells.toList := by
  cases h <;> first | (simp [AV.isU] at hu; done) | (simp only [acells, Value.cells]; first | assumption | exact .cons (by constructor <;> assumption) .nil | exact .cons (by constructor) .nil)

theorem RelVs.set : ∀ {vs : List AV} {cs : List Value} {i : Nat} {v : AV} {c : Value}, RelVs σ vs cs → RelV σ v c → RelVs σ (vs.set i v) (cs.set i c)
  | _, _, _, _, _, .nil, _ => .nil
  | _, _, 0, _, _, .cons _ h2, h => .cons h h2
  | _, _, _ + 1, _, _, .cons h1 h2, h => .cons h1 (RelVs.set h2 h)

theorem RelVs.fold (off : Nat) : ∀ {vs : List AV} {cs : List Value} (k : Nat), RelVs σ vs cs → ∀ {l : List AV} {C : Array Value}, RelVs σ l C.toList →
    RelVs σ ((vs.zipIdx k).foldl (fun cs (x : AV × Nat) => cs.set (off + x.2) x.1) l) (((cs.zipIdx k).foldl (fun (cs : Array Value) (x : Value × Nat) => cs.setIfInBounds (off + x.2) x.1) C).toList)
  | _, _, _, .nil, _, _, h => h
  | v :: vs, c :: cs, k, .cons h1 h2, l, C, h => by
    simp only [List.zipIdx_cons, List.foldl_cons]
    exact RelVs.fold off (k + 1) h2 (by rw [Array.toList_setIfInBounds]; exact h.set h1)

def aFill (place : Nat → Option (Nat × Nat)) (cells : List AV) : List (Nat × AV) → Option (List AV)
  | [] => some cells
  | (i, v) :: rest =>
    match place i with
    | none => none
    | some (off, size) =>
      if v.isU || (acells v).length != size || decide (off + (acells v).length > cells.length) then none
      else aFill place ((acells v).zipIdx.foldl (fun cs (x : AV × Nat) => cs.set (off + x.2) x.1) cells) rest

def RelPs (σ : Inj) : List (Nat × AV) → List (Nat × Value) → Prop
  | [], [] => True
  | (i, v) :: l, (j, c) :: l' => i = j ∧ RelV σ v c ∧ RelPs σ l l'
  | _, _ => False

theorem RelPs.of_map {ρ : Operand → AV} {ρc : Operand → Value} (h : ∀ x, RelV σ (ρ x) (ρc x)) : ∀ (l : List (Nat × Operand)), RelPs σ (l.map fun x => (x.1, ρ x.2)) (l.map fun x => (x.1, ρc x.2))
  | [] => trivial
  | (_i, x) :: l => ⟨rfl, h x, RelPs.of_map h l⟩

theorem aFill_sound {place : Nat → Option (Nat × Nat)} : ∀ {parts : List (Nat × AV)} {parts' : List (Nat × Value)} {cells cells' : List AV} {C : Array Value}, aFill place cells parts = some cells' → RelPs σ parts parts' → RelVs σ cells C.toList →
    ∃ C', Instr.fill place C parts' = some C' ∧ RelVs σ cells' C'.toList
  | [], [], cells, cells', C, h, _, hC => by simp [aFill] at h; subst h; exact ⟨C, rfl, hC⟩
  | [], _ :: _, _, _, _, _, h, _ => h.elim
  | _ :: _, [], _, _, _, _, h, _ => h.elim
  | (i, v) :: l, (j, c) :: l', cells, cells', C, h, hp, hC => by
    obtain ⟨rfl, hv, hl⟩ := hp
    simp only [aFill] at h
    cases hpl : place i with
    | none => simp [hpl] at h
    | some x =>
      obtain ⟨off, size⟩ := x
      simp only [hpl] at h
      split at h
      · cases h
      · rename_i hcond
        simp only [Bool.or_eq_true, bne_iff_ne, ne_eq, decide_eq_true_eq, not_or, Bool.not_eq_true, Decidable.not_not] at hcond
        obtain ⟨⟨hu, hsz⟩, hoff⟩ := hcond
        have hcs := hv.cells hu
        have hl1 := hcs.length
        have hl2 := hC.length
        simp only [Array.length_toList] at hl1 hl2
        obtain ⟨C', h1, h2⟩ := aFill_sound h hl (C := ((c.cells.zipIdx.foldl (fun cs (x : Value × Nat) => cs.setIfInBounds (off + x.2) x.1) C))) (by
          rw [← Array.foldl_toList, Array.toList_zipIdx]
          exact RelVs.fold off 0 hcs hC)
        refine ⟨C', ?_, h2⟩
        simp only [Instr.fill, hpl]
        rw [if_neg]
        · exact h1
        · simp; omega

def zeroOf (z : Value) : List AV := z.cells.toList.map (absV 2)
theorem relVs_zero (z : Value) : RelVs σ (zeroOf z) z.cells.toList := RelVs.of_map fun v _ => relV_absV σ 2 v

def aBuilt (P : Program) (t : TypeId) (parts : List (Nat × AV)) : Option (List AV) :=
  match P.info? t, P.underlying t with
  | some it, some (.array _ e) =>
    match it.zero, P.info? e with
    | some z, some ie => aFill (fun i => some (i * ie.size, ie.size)) (zeroOf z) parts
    | _, _ => none
  | some it, some (.struct fields) =>
    match it.zero, fields.toList.mapM (fun f => (P.info? f.type).map fun i => (f.offset, i.size)) with
    | some z, some places => aFill (places.toArray[·]?) (zeroOf z) parts
    | _, _ => none
  | _, _ => none

theorem aBuilt_sound {t : TypeId} {parts : List (Nat × AV)} {parts' : List (Nat × Value)} {cells : List AV} (h : aBuilt P t parts = some cells) (hp : RelPs σ parts parts') :
    ∃ C, P.built t parts' = some C ∧ RelVs σ cells C.toList := by
  unfold aBuilt at h
  unfold Program.built
  split at h
  case h_3 => cases h
  case h_1 it e h1 h2 =>
    simp only [h1, h2]
    split at h
    case h_2 => cases h
    rename_i z ie h3 h4
    simp only [h3, h4]
    exact aFill_sound h hp (relVs_zero z)
  case h_2 it fields h1 h2 =>
    simp only [h1, h2]
    split at h
    case h_2 => cases h
    rename_i z places h3 h4
    simp only [h3, h4]
    exact aFill_sound h hp (relVs_zero z)

/-- A part of a struct or an array. -/
def aPart (P : Program) (t : TypeId) (cs : List AV) (off : Nat) : Option AV :=
  match P.underlying t, P.info? t with
  | some d, some i => if isAggD d then some (.agg ((cs.drop off).take i.size)) else cs[off]?
  | _, _ => none

theorem RelVs.take : ∀ {vs : List AV} {cs : List Value} (n : Nat), RelVs σ vs cs → RelVs σ (vs.take n) (cs.take n)
  | _, _, 0, _ => by simpa using RelVs.nil
  | _, _, _ + 1, .nil => by simpa using RelVs.nil
  | _, _, n + 1, .cons h1 h2 => .cons h1 (RelVs.take n h2)
theorem RelVs.drop : ∀ {vs : List AV} {cs : List Value} (n : Nat), RelVs σ vs cs → RelVs σ (vs.drop n) (cs.drop n)
  | _, _, 0, h => h
  | _, _, _ + 1, .nil => by simpa using RelVs.nil
  | _, _, n + 1, .cons _ h2 => RelVs.drop n h2

theorem run_isAgg {t : TypeId} {d : TypeDesc} (h : P.underlying t = some d) (w : World) : (isAgg t).run P w = .ok (isAggD d) w := by
  unfold isAgg
  rw [Sem.run_bind, run_underlying h]
  cases d <;> rfl

theorem aPart_sound {t : TypeId} {vs : List AV} {cs : Array Value} {off : Nat} {v : AV} (h : aPart P t vs off = some v) (hc : RelVs σ vs cs.toList) :
    ∃ c, RelV σ v c ∧ ∀ w, (part t cs off).run P w = .ok c w := by
  unfold aPart at h
  split at h
  case h_2 => cases h
  rename_i d i h1 h2
  split at h
  · rename_i hd
    cases h
    refine ⟨.agg (cs.extract off (off + i.size)), .agg ?_, fun w => ?_⟩
    · rw [Array.toList_extract]
      have := (hc.drop off).take i.size
      simpa [List.extract_eq_take_drop] using this
    · simp [part, run_isAgg h1, hd, sizeOf, typeInfo, h2]
  · rename_i hd
    obtain ⟨c, h3, h4⟩ := hc.get h
    refine ⟨c, h4, fun w => ?_⟩
    have h3' : cs[off]? = some c := by rw [← h3]; simp
    simp [part, run_isAgg h1, hd, h3']

def aField (P : Program) (t : TypeId) (x : AV) (f : Nat) : Option AV :=
  match P.underlying t, x with
  | some (.struct fields), .agg cs => (fields[f]?).bind fun f => aPart P f.type cs f.offset
  | _, _ => none

def aFieldAddr (P : Program) (t : TypeId) (x : AV) (f : Nat) : Option AV :=
  match P.underlying t, x with
  | some (.struct fields), .ptr r off ver =>
    (fields[f]?).bind fun f => (P.info? f.type).bind fun i => if i.size = 0 then none else some (.ptr r (off + f.offset) ver)
  | some (.struct fields), .gptr g off =>
    (fields[f]?).bind fun f => (P.info? f.type).bind fun i => if i.size = 0 then none else some (.gptr g (off + f.offset))
  | _, _ => none

def aIndexAddr (P : Program) (t : TypeId) (x ix : AV) : Option AV :=
  match P.underlying t, x, ix with
  | some (.slice e), .slice (some r) off len ver sz _, .int _ i =>
    match P.info? e with
    | some ie => if ie.size = sz ∧ 0 ≤ i ∧ i < len then some (.ptr r (off + i.toNat * sz) ver) else none
    | none => none
  | some (.array n e), .ptr r off ver, .int _ i =>
    match P.info? e with
    | some ie => if 0 ≤ i ∧ i < n then some (.ptr r (off + i.toNat * ie.size) ver) else none
    | none => none
  | some (.array n e), .gptr g off, .int _ i =>
    match P.info? e with
    | some ie => if 0 ≤ i ∧ i < n then some (.gptr g (off + i.toNat * ie.size)) else none
    | none => none
  | some (.slice e), .clip r off len ver sz, .int _ i =>
    match P.info? e with
    | some ie => if ie.size = sz ∧ 0 ≤ i ∧ i < len then some (.ptr r (off + i.toNat * sz) ver) else none
    | none => none
  | some (.slice e), .part r off len ver sz, .int _ i =>
    match P.info? e with
    | some ie => if ie.size = sz ∧ 0 ≤ i ∧ i < len then some (.ptr r (off + i.toNat * sz) ver) else none
    | none => none
  | _, _, _ => none

def aIndex (P : Program) (t : TypeId) (x ix : AV) : Option AV :=
  match P.underlying t, x, ix with
  | some (.array n e), .agg cs, .int _ i => if 0 ≤ i ∧ i < n then (P.info? e).bind fun ie => aPart P e cs (i.toNat * ie.size) else none
  | some .string, .str s, .int _ i => if 0 ≤ i then (s[i.toNat]?).map fun b => .int .u8 b.toNat else none
  | _, _, _ => none

def aBound (x : AV) (hi : Nat) : Option Nat :=
  match x with
  | .int _ i => if 0 ≤ i ∧ i ≤ hi then some i.toNat else none
  | _ => none

def aBounds (len : Nat) (lo hi mx : Option AV) : Option (Nat × Nat × Nat) :=
  (match mx with | some v => aBound v len | none => some len).bind fun m =>
  (match hi with | some v => aBound v m | none => if mx.isSome then none else some len).bind fun h =>
  (match lo with | some v => aBound v h | none => some 0).bind fun l => some (l, h, m)

def clipOf : Option Nat → Nat → Nat → Nat → Nat → AV
  | none, _, _, _, _ => .slice none 0 0 0 1 false
  | some r, off, len, ver, sz => .clip r off len ver sz

def aSlice (P : Program) (t : TypeId) (x : AV) (lo hi mx : Option AV) : Option AV :=
  match P.underlying t, x with
  | some .string, .str s => if mx.isSome then none else (aBounds s.length lo hi none).map fun (l, h, _) => .str ((s.drop l).take (h - l))
  | some (.slice e), .slice r off len ver sz full =>
    match P.info? e with
    | some ie => if ie.size = sz then (aBounds len lo hi mx).map fun (l, h, m) => if mx.isSome then (if h = m then clipOf r (off + l * sz) (h - l) ver sz else .undef) else .slice r (off + l * sz) (h - l) ver sz (full && h == len)
      else match r with
        | none => (aBounds len lo hi mx).map fun _ => .slice none 0 0 0 1 false
        | some _ => none
    | none => none
  | some (.slice e), .clip r off len ver sz =>
    match P.info? e with
    | some ie => if ie.size = sz then (aBounds len lo hi mx).map fun (l, h, m) => if h = (if mx.isSome then m else len) then .clip r (off + l * sz) (h - l) ver sz else .undef else none
    | none => none
  | _, _ => none

def aConv (P : Program) (src dst : TypeId) (x : AV) : Option AV :=
  match P.underlying src, P.underlying dst, x with
  | some _, some (.int k), .int _ n => some (.int k (k.wrap n))
  | some _, some .string, .int _ n => some (.str (Utf8.encode n).data.toList)
  | some _, some .string, .str s => some (.str s)
  | _, _, _ => none

def aUn (op : UnOp) (x : AV) : Option AV :=
  match op, x with
  | .neg, .int k n => some (.int k (k.wrap (0 - n)))
  | .xor, .int k n => some (.int k (k.wrap (BitVec.ofInt k.bits (if k.signed then -1 else k.max) ^^^ BitVec.ofInt k.bits n).toNat))
  | .not, .bool b => some (.bool !b)
  | _, _ => none

def aHolds (ok : Bool) (v : AV) : AV := if ok then .tuple [v, .bool true] else v
def aFails (P : Program) (t : TypeId) (ok : Bool) : Option AV := if ok then ((P.info? t).bind (·.zero)).map fun z => .tuple [absV 3 z, .bool false] else none
def TypeDesc.isIface : TypeDesc → Bool
  | .interface _ => true
  | _ => false
def aAssert (P : Program) (x : AV) (asserted : TypeId) (ok : Bool) : Option AV :=
  match P.underlying asserted, x with
  | some (.interface want), .iface t v =>
    match P.info? t with
    | some i => match Instr.missingMethod want i.methods with
      | none => some (aHolds ok (.iface t v))
      | some _ => aFails P asserted ok
    | none => none
  | some _, .niliface => aFails P asserted ok
  | some d, .iface t v => if TypeDesc.isIface d then none else if t = asserted then some (aHolds ok v) else aFails P asserted ok
  | _, _ => none

def aLen (P : Program) (t : TypeId) (x : AV) : Option AV :=
  match P.underlying t, x with
  | some .string, .str s => some (.int .i64 s.length)
  | some (.array n _), _ => some (.int .i64 n)
  | some (.slice _), .slice _ _ len _ _ _ => some (.int .i64 len)
  | some (.slice _), .clip _ _ len _ _ => some (.int .i64 len)
  | some (.slice _), .part _ _ len _ _ => some (.int .i64 len)
  | some (.map _ _), .nilmap => some (.int .i64 0)
  | some (.pointer a), _ => match P.underlying a with
    | some (.array n _) => some (.int .i64 n)
    | _ => none
  | _, _ => none

/-- The capacity of a slice without an array. -/
def aCap (P : Program) (t : TypeId) (x : AV) : Option AV :=
  match P.underlying t, x with
  | some (.slice _), .slice none _ _ _ _ _ => some (.int .i64 0)
  | _, _ => none
def aMinFrom : AV → List AV → Option AV
  | x, [] => some x
  | .int k n, .int _ m :: rest => aMinFrom (.int k (if m < n then m else n)) rest
  | _, _ => none
def aMaxFrom : AV → List AV → Option AV
  | x, [] => some x
  | .int k n, .int _ m :: rest => aMaxFrom (.int k (if n < m then m else n)) rest
  | _, _ => none
def aMin : List AV → Option AV
  | [] => none
  | x :: l => aMinFrom x l
def aMax : List AV → Option AV
  | [] => none
  | x :: l => aMaxFrom x l

def aNil (x : AV) : Option AV :=
  match x with
  | .ptr r o v => some (.ptr r o v)
  | .iface t v => some (.iface t v)
  | .func (.func f) a b => some (.func (.func f) a b)
  | _ => none

/-- Structs and arrays compared, part by part. -/
def eqAll : List (Option AV × Option AV × (AV → AV → Option Bool)) → Option Bool
  | [] => some true
  | (some a, some b, f) :: l => match f a b with
    | some true => eqAll l
    | some false => some false
    | none => none
  | _ :: _ => none
def eqV (P : Program) : Nat → TypeId → AV → AV → Option Bool
  | 0, _, _, _ => none
  | d + 1, t, x, y =>
    match P.underlying t, x, y with
    | some (.int _), .int k a, .int k' b => if k = k' then some (a == b) else none
    | some .bool, .bool a, .bool b => some (a == b)
    | some .string, .str a, .str b => some (a == b)
    | some (.struct fs), .agg xs, .agg ys => if P.stoodInHeld t || fs.toList.any (fun f => f.name == "_") then none else
        eqAll (fs.toList.map fun f => (aPart P f.type xs f.offset, aPart P f.type ys f.offset, eqV P d f.type))
    | some (.array n e), .agg xs, .agg ys => match P.info? e with
      | some ie => eqAll ((List.range n).map fun i => (aPart P e xs (i * ie.size), aPart P e ys (i * ie.size), eqV P d e))
      | none => none
    | _, _, _ => none
def aEqA (P : Program) (op : BinOp) (t : TypeId) (x y : AV) : Option AV :=
  match x, y with
  | .agg xs, .agg ys =>
    if P.eqGuardType P.depth t then none else
    match op with
    | .eql => (eqV P 4 t (.agg xs) (.agg ys)).map .bool
    | .neq => (eqV P 4 t (.agg xs) (.agg ys)).map fun b => .bool (!b)
    | _ => none
  | _, _ => none

theorem eqV_sound : ∀ (d D : Nat) {t : TypeId} {x y : AV} {a b : Value} {r : Bool}, eqV P d t x y = some r → RelV σ x a → RelV σ y b → ∀ w, (Op.equalIn (D + d) t a b).run P w = .ok r w
  | 0, _, _, _, _, _, _, _, h, _, _ => by simp [eqV] at h
  | d + 1, D, t, x, y, a, b, r, h, hx, hy => by
    intro w
    rw [show D + (d + 1) = (D + d) + 1 from rfl]
    unfold eqV at h
    split at h
    case h_6 => cases h
    case h_1 k0 k a' k' b' hu =>
      cases hx; cases hy
      split at h
      case isFalse => cases h
      rename_i hk
      subst hk
      cases h
      exact run_equalIn_int w _ t _ _ _ _ hu
    case h_2 a' b' hu =>
      cases hx; cases hy; cases h
      exact run_equalIn_bool' w _ t _ _ hu
    case h_3 a' b' hu =>
      cases hx with | str s1 => ?_
      cases hy with | str s2 => ?_
      cases h
      rw [run_equalIn_string w _ t _ _ hu]
      rw [ba_toList, ba_toList]
    case h_4 fs xs ys hu =>
      split at h
      · cases h
      rename_i hc
      simp only [Bool.or_eq_true, not_or, Bool.not_eq_true] at hc
      cases hx with | agg hxs => ?_
      cases hy with | agg hys => ?_
      rename_i ax ay
      have hfs : P.fieldsOf t = fs := by simp [Program.fieldsOf, hu]
      rw [run_equalIn_struct w (D + d) t ax ay (by rw [hfs]; exact hu) hc.1, hfs]
      have hn := hc.2
      clear hc hu hfs
      generalize fs.toList = l at h hn
      induction l with
      | nil => simp [eqAll] at h; subst h; simp [Op.eqFields]
      | cons f l ih =>
        simp only [List.any_cons, Bool.or_eq_false_iff, beq_eq_false_iff_ne, ne_eq] at hn
        simp only [List.map_cons] at h
        cases hp1 : aPart P f.type xs f.offset with
        | none => rw [hp1] at h; simp [eqAll] at h
        | some a1 =>
          cases hp2 : aPart P f.type ys f.offset with
          | none => rw [hp1, hp2] at h; simp [eqAll] at h
          | some b1 =>
            rw [hp1, hp2] at h
            simp only [eqAll] at h
            obtain ⟨c1, g1, g2⟩ := aPart_sound hp1 hxs
            obtain ⟨c2, g3, g4⟩ := aPart_sound hp2 hys
            cases he : eqV P d f.type a1 b1 with
            | none => rw [he] at h; simp at h
            | some q =>
              have hr := eqV_sound d D he g1 g3 w
              rw [he] at h
              simp only [Op.eqFields, hn.1, ne_eq, not_false_eq_true, if_true, Sem.run_bind, g2, g4, hr, Result.andThen_ok]
              cases q with
              | false => simp at h; subst h; simp
              | true => simp at h; simpa using ih h hn.2
    case h_5 n e xs ys hu =>
      split at h
      case h_2 => cases h
      rename_i ie hie
      cases hx with | agg hxs => ?_
      cases hy with | agg hys => ?_
      rename_i ax ay
      rw [run_equalIn_array w (D + d) ax ay hu hie]
      have hsz : P.cellsOf e = ie.size := by simp [Program.cellsOf, hie]
      rw [hsz]
      generalize List.range n = l at h ⊢
      induction l with
      | nil => simp [eqAll] at h; subst h; simp [Op.eqItems]
      | cons i l ih =>
        simp only [List.map_cons] at h
        cases hp1 : aPart P e xs (i * ie.size) with
        | none => rw [hp1] at h; simp [eqAll] at h
        | some a1 =>
          cases hp2 : aPart P e ys (i * ie.size) with
          | none => rw [hp1, hp2] at h; simp [eqAll] at h
          | some b1 =>
            rw [hp1, hp2] at h
            simp only [eqAll] at h
            obtain ⟨c1, g1, g2⟩ := aPart_sound hp1 hxs
            obtain ⟨c2, g3, g4⟩ := aPart_sound hp2 hys
            cases he : eqV P d e a1 b1 with
            | none => rw [he] at h; simp at h
            | some q =>
              have hr := eqV_sound d D he g1 g3 w
              rw [he] at h
              simp only [Op.eqItems, Sem.run_bind, g2, g4, hr, Result.andThen_ok]
              cases q with
              | false => simp at h; subst h; simp
              | true => simp at h; simpa using ih h

theorem aEqA_sound {op : BinOp} {t : TypeId} {x y v : AV} {a b : Value} {X Y : Operand} (h : aEqA P op t x y = some v) (hx : RelV σ x a) (hy : RelV σ y b) :
    ∃ c, RelV σ v c ∧ ∀ w, (do eqGuard op t X Y a b; binOp op t a b : Sem Value).run P w = .ok c w := by
  unfold aEqA at h
  split at h
  case h_2 => cases h
  rename_i xs ys
  split at h
  · cases h
  rename_i hg
  cases hx with | agg hxs => ?_
  cases hy with | agg hys => ?_
  rename_i ax ay
  have hop : op = .eql ∨ op = .neq := by cases op <;> simp at h ⊢
  have hrun : ∃ r, eqV P 4 t (.agg xs) (.agg ys) = some r ∧ v = .bool (if op = .eql then r else !r) := by
    rcases hop with rfl | rfl
    · obtain ⟨r, h1, h2⟩ := Option.map_eq_some_iff.1 h
      exact ⟨r, h1, by simp [h2]⟩
    · obtain ⟨r, h1, h2⟩ := Option.map_eq_some_iff.1 h
      exact ⟨r, h1, by simp [h2]⟩
  obtain ⟨r, hr, hv⟩ := hrun
  refine aCmp_eq (r := r) hop (fun w => ?_) (fun w => ?_) ?_ hv
  · have hg' : P.eqGuardType P.depth t = false := by simpa using hg
    rcases hop with rfl | rfl <;> simp [eqGuard, run_program, hg']
  · exact eqV_sound 4 9996 hr (.agg hxs) (.agg hys) w
  · intro op hop; rcases hop with rfl | rfl <;> rfl

/-- The operations that leave memory alone and do not look at it. -/
def aPure (P : Program) (ρ : Operand → AV) : Op → Option AV
  | .move x | .assign x => some (ρ x)
  | .pick c a b => match ρ c with | .bool t => some (if t then ρ a else ρ b) | _ => none
  | .build t parts => (aBuilt P t (parts.toList.map fun x => (x.1, ρ x.2))).map .agg
  | .nilCheck x => aNil (ρ x)
  | .binOp op t x y _ => match aBin op (ρ x) (ρ y) with
    | some v => some v
    | none => match aCmp P op t (litOp x || litOp y) (ρ x) (ρ y) with
      | some v => some v
      | none => aEqA P op t (ρ x) (ρ y)
  | .unOp op _ x => aUn op (ρ x)
  | .convert s d x => aConv P s d (ρ x)
  | .makeInterface t x => match P.underlying t with
    | some d => if TypeDesc.isIface d then none else some (.iface t (ρ x))
    | none => none
  | .makeFunc fn first captured => some (.func fn (first.toList.map ρ) (captured.toList.map ρ))
  | .slice t x lo hi mx => aSlice P t (ρ x) (lo.map ρ) (hi.map ρ) (mx.map ρ)
  | .fieldAddr s x f => aFieldAddr P s (ρ x) f
  | .field t x f => aField P t (ρ x) f
  | .indexAddr t x i => aIndexAddr P t (ρ x) (ρ i)
  | .index t x i => aIndex P t (ρ x) (ρ i)
  | .typeAssert x _ t ok => aAssert P (ρ x) t ok
  | .extract x i => match ρ x with | .tuple vs => vs[i]? | _ => none
  | .call { callee := .builtin .len, args, argTypes } => match argTypes[0]?, args[0]? with
    | some t, some x => aLen P t (ρ x)
    | _, _ => none
  | .call { callee := .builtin .min, args, .. } => aMin (args.toList.map ρ)
  | .call { callee := .builtin .max, args, .. } => aMax (args.toList.map ρ)
  | .call { callee := .builtin .cap, args, argTypes } => match argTypes[0]?, args[0]? with
    | some t, some x => aCap P t (ρ x)
    | _, _ => none
  | _ => none

theorem run_v {s : Sem Value} {c : Value} {w w' : World} (h : s.run P w = .ok c w') : (do pure (Next.value (← s)) : Sem Next).run P w = .ok (.value c) w' := by
  simp [h]

theorem add_plain (b o n : Nat) : (⟨b, o, none⟩ : Addr).add n = ⟨b, o + n, none⟩ := Addr.add_mid b o n

theorem aBounds_sound {isS : Bool} {len cap : Nat} (hlc : len ≤ cap) {lo hi mx : Option AV} {lo' hi' mx' : Option Value} {l h m : Nat} (hb : aBounds len lo hi mx = some (l, h, m))
    (h1 : ∀ v, lo = some v → ∃ c, lo' = some c ∧ RelV σ v c) (h1' : lo = none → lo' = none) (h2 : ∀ v, hi = some v → ∃ c, hi' = some c ∧ RelV σ v c) (h2' : hi = none → hi' = none)
    (h3 : ∀ v, mx = some v → ∃ c, mx' = some c ∧ RelV σ v c) (h3' : mx = none → mx' = none) :
    l ≤ h ∧ h ≤ len ∧ ∃ m', h ≤ m' ∧ m' ≤ cap ∧ (mx.isSome = true → m' = m) ∧ (mx.isSome = false → m' = cap) ∧ ∀ w, (Instr.sliceBounds isS len cap lo' hi' mx').run P w = .ok (l, h, m') w := by
  have hbd : ∀ {v : AV} {c : Value} {y n : Nat} (y' : Nat) (code : BoundsCode), aBound v y = some n → RelV σ v c → y ≤ y' → n ≤ y ∧ ∀ w, (Instr.sliceBound c y' code).run P w = .ok n w := by
    intro v c y n y' code hv hr hy
    unfold aBound at hv
    split at hv
    case h_2 => cases hv
    cases hr
    split at hv
    case isFalse => cases hv
    rename_i hcond
    cases hv
    refine ⟨by omega, fun w => ?_⟩
    simp only [Instr.sliceBound, asIntOf, Sem.run_bind, Sem.run_pure, Result.andThen_ok]
    rw [if_pos (by omega)]
    rfl
  unfold aBounds at hb
  cases mx with
  | none =>
    have e3 := h3' rfl
    subst e3
    simp only [Option.bind_some] at hb
    cases hi with
    | none =>
      have e2 := h2' rfl
      subst e2
      simp only [Option.isSome_none, Bool.false_eq_true, if_false, Option.bind_some] at hb
      cases lo with
      | none =>
        have e1 := h1' rfl
        subst e1
        simp at hb
        obtain ⟨rfl, rfl, rfl⟩ := hb
        exact ⟨by omega, by omega, cap, hlc, by omega, fun h => (by cases h), fun _ => rfl, fun w => by simp [Instr.sliceBounds]⟩
      | some v =>
        obtain ⟨c, rfl, hc⟩ := h1 v rfl
        simp only [Option.bind_eq_some_iff, Option.some.injEq, Prod.mk.injEq] at hb
        obtain ⟨l', hl, rfl, rfl, rfl⟩ := hb
        obtain ⟨g1, g2⟩ := hbd len .sliceB hl hc (Nat.le_refl _)
        exact ⟨g1, Nat.le_refl _, cap, hlc, Nat.le_refl _, fun h => (by cases h), fun _ => rfl, fun w => by simp [Instr.sliceBounds, g2]⟩
    | some v2 =>
      obtain ⟨c2, rfl, hc2⟩ := h2 v2 rfl
      simp only [Option.bind_eq_some_iff] at hb
      obtain ⟨h', hh, hb⟩ := hb
      obtain ⟨g3, g4⟩ := hbd cap (if isS then .sliceAcap else .sliceAlen) hh hc2 hlc
      cases lo with
      | none =>
        have e1 := h1' rfl
        subst e1
        simp at hb
        obtain ⟨rfl, rfl, rfl⟩ := hb
        exact ⟨by omega, by omega, cap, by omega, by omega, fun h => (by cases h), fun _ => rfl, fun w => by simp [Instr.sliceBounds, g4]⟩
      | some v =>
        obtain ⟨c, rfl, hc⟩ := h1 v rfl
        simp only [Option.some.injEq, Prod.mk.injEq] at hb
        obtain ⟨l', hl, rfl, rfl, rfl⟩ := hb
        obtain ⟨g1, g2⟩ := hbd h' .sliceB hl hc (Nat.le_refl _)
        exact ⟨g1, g3, cap, by omega, Nat.le_refl _, fun h => (by cases h), fun _ => rfl, fun w => by simp [Instr.sliceBounds, g2, g4]⟩
  | some v3 =>
    obtain ⟨c3, rfl, hc3⟩ := h3 v3 rfl
    simp only [Option.bind_eq_some_iff] at hb
    obtain ⟨m', hm, hb⟩ := hb
    obtain ⟨g5, g6⟩ := hbd cap (if isS then .slice3Acap else .slice3Alen) hm hc3 hlc
    cases hi with
    | none => simp at hb
    | some v2 =>
      obtain ⟨c2, rfl, hc2⟩ := h2 v2 rfl
      simp only at hb
      obtain ⟨h', hh, hb⟩ := hb
      obtain ⟨g3, g4⟩ := hbd m' .slice3B hh hc2 (Nat.le_refl _)
      cases lo with
      | none =>
        have e1 := h1' rfl
        subst e1
        simp at hb
        obtain ⟨rfl, rfl, rfl⟩ := hb
        exact ⟨by omega, by omega, _, g3, by omega, fun _ => rfl, fun h => (by cases h), fun w => by simp [Instr.sliceBounds, g4, g6]⟩
      | some v =>
        obtain ⟨c, rfl, hc⟩ := h1 v rfl
        simp only [Option.some.injEq, Prod.mk.injEq] at hb
        obtain ⟨l', hl, rfl, rfl, rfl⟩ := hb
        obtain ⟨g1, g2⟩ := hbd h' .slice3C hl hc (Nat.le_refl _)
        exact ⟨g1, by omega, m', g3, by omega, fun _ => rfl, fun h => (by cases h), fun w => by
          simp [Instr.sliceBounds, g2, g4, g6]⟩

theorem aMin_sound : ∀ {x : AV} {l : List AV} {a : Value} {l' : List Value} {v : AV}, aMinFrom x l = some v → RelV σ x a → RelVs σ l l' → ∃ c, RelV σ v c ∧ ∀ w, (l'.foldlM Builtin.min2 a).run P w = .ok c w
  | x, [], a, _, v, h, hx, .nil => by simp [aMinFrom] at h; subst h; exact ⟨a, hx, fun w => by simp⟩
  | .int k n, .int _ m :: l, _, _, v, h, .int _ _, .cons (.int _ _) h2 => by
    simp only [aMinFrom] at h
    obtain ⟨c, h3, h4⟩ := aMin_sound h (.int _ _) h2
    exact ⟨c, h3, fun w => by simp [List.foldlM_cons, Builtin.min2, h4]⟩
theorem aMax_sound : ∀ {x : AV} {l : List AV} {a : Value} {l' : List Value} {v : AV}, aMaxFrom x l = some v → RelV σ x a → RelVs σ l l' → ∃ c, RelV σ v c ∧ ∀ w, (l'.foldlM Builtin.max2 a).run P w = .ok c w
  | x, [], a, _, v, h, hx, .nil => by simp [aMaxFrom] at h; subst h; exact ⟨a, hx, fun w => by simp⟩
  | .int k n, .int _ m :: l, _, _, v, h, .int _ _, .cons (.int _ _) h2 => by
    simp only [aMaxFrom] at h
    obtain ⟨c, h3, h4⟩ := aMax_sound h (.int _ _) h2
    exact ⟨c, h3, fun w => by simp [List.foldlM_cons, Builtin.max2, h4]⟩

theorem RelVs.of_ops {ρ : Operand → AV} {ρc : Operand → Value} (hρ : ∀ x, RelV σ (ρ x) (ρc x)) : ∀ (l : List Operand), RelVs σ (l.map ρ) (l.map ρc)
  | [] => .nil
  | x :: l => .cons (hρ x) (RelVs.of_ops hρ l)

theorem aSlice_sound {t : TypeId} {x v : AV} {a : Value} {lo hi mx : Option Operand} {ρ : Operand → AV} {ρc : Operand → Value} (hρ : ∀ x, RelV σ (ρ x) (ρc x)) (h : aSlice P t x (lo.map ρ) (hi.map ρ) (mx.map ρ) = some v) (hx : RelV σ x a) :
    ∃ c, RelV σ v c ∧ ∀ w, (Instr.sliceAt t a (lo.map ρc) (hi.map ρc) (mx.map ρc)).run P w = .ok c w := by
  have e1 : ∀ (o : Option Operand) v, o.map ρ = some v → ∃ c, o.map ρc = some c ∧ RelV σ v c := fun o v ho => by
    cases o with
    | none => simp at ho
    | some y => simp at ho; subst ho; exact ⟨_, rfl, hρ y⟩
  have e2 : ∀ (o : Option Operand), o.map ρ = none → o.map ρc = none := fun o ho => by cases o <;> simp_all
  unfold aSlice at h
  split at h
  case h_4 => cases h
  case h_1 s hu =>
    split at h
    · cases h
    · rename_i hm
      obtain ⟨⟨l, h', m⟩, hb, rfl⟩ := Option.map_eq_some_iff.1 h
      cases hx with | str s => ?_
      have hm' : mx = none := by cases mx <;> simp_all
      subst hm'
      obtain ⟨g1, g2, m', g3, g4, gm, gc, g5⟩ := aBounds_sound (P := P) (isS := false) (cap := s.data.toList.length) (Nat.le_refl _) (mx' := none) hb (e1 lo) (e2 lo) (e1 hi) (e2 hi) (fun v h => by cases h) (fun _ => rfl)
      refine ⟨.string (s.extract l h'), ?_, fun w => ?_⟩
      · have : (s.data.toList.drop l).take (h' - l) = (s.extract l h').data.toList := by
          rw [ByteArray.data_extract, Array.toList_extract, List.extract_eq_take_drop]
        show RelV σ (.str ((s.data.toList.drop l).take (h' - l))) _
        rw [this]; exact .str _
      · have g5' : ∀ w, (Instr.sliceBounds false s.size s.size (Option.map ρc lo) (Option.map ρc hi) none).run P w = .ok (l, h', m') w := g5
        simp [Instr.sliceAt, run_underlying hu, Instr.slice, g5']
  case h_2 e r off len ver sz full hu =>
    split at h
    case h_2 => cases h
    rename_i ie hie
    split at h
    case isFalse =>
      split at h
      case h_2 => cases h
      obtain ⟨⟨l, h', m⟩, hb, rfl⟩ := Option.map_eq_some_iff.1 h
      cases hx with
      | nilslice =>
        obtain ⟨g1, g2, m', g3, g4, gm, gc, g5⟩ := aBounds_sound (P := P) (isS := true) (cap := 0) (Nat.le_refl _) hb (e1 lo) (e2 lo) (e1 hi) (e2 hi) (e1 mx) (e2 mx)
        have : l = 0 := by omega
        have : h' = 0 := by omega
        have : m' = 0 := by omega
        subst_vars
        refine ⟨.slice none 0 0, .nilslice, fun w => ?_⟩
        simp [Instr.sliceAt, run_underlying hu, Instr.slice, g5, sizeOf, typeInfo, hie]
    rename_i hsz
    obtain ⟨⟨l, h', m⟩, hb, rfl⟩ := Option.map_eq_some_iff.1 h
    cases hx with
    | nilslice =>
      obtain ⟨g1, g2, m', g3, g4, gm, gc, g5⟩ := aBounds_sound (P := P) (isS := true) (cap := 0) (Nat.le_refl _) hb (e1 lo) (e2 lo) (e1 hi) (e2 hi) (e1 mx) (e2 mx)
      have : l = 0 := by omega
      have : h' = 0 := by omega
      have : m' = 0 := by omega
      subst_vars
      refine ⟨.slice none 0 0, ?_, fun w => ?_⟩
      · simp only []
        split
        · split
          · exact .nilslice
          · exact .undef _
        · exact .nilslice
      · simp [Instr.sliceAt, run_underlying hu, Instr.slice, g5, sizeOf, typeInfo, hie]
    | slice hf hv hc hl ho hfl hfin =>
      rename_i r b o n cap sp d
      obtain ⟨g1, g2, m', g3, g4, gm, gc, g5⟩ := aBounds_sound (P := P) (isS := true) (cap := cap) hl hb (e1 lo) (e2 lo) (e1 hi) (e2 hi) (e1 mx) (e2 mx)
      refine ⟨.slice (some (if m' = l then ⟨b, o, sp⟩ else (⟨b, o, sp⟩ : Addr).add (l * ie.size))) (h' - l) (m' - l), ?_, fun w => ?_⟩
      · simp only []
        have hoo : m' ≠ l → ∃ q, (⟨b, o, sp⟩ : Addr).add (l * ie.size) = ⟨b, q, none⟩ ∧ (q : Int) = d + (off + l * sz : Nat) ∧ q + (m' - l) * sz ≤ n := by
          intro hml
          have hcap : cap ≠ 0 := by omega
          obtain ⟨ho1, ho2, rfl⟩ := ho hcap
          refine ⟨o + l * sz, by rw [hsz, add_plain], by push_cast; omega, ?_⟩
          have h1 : l * sz + (m' - l) * sz = m' * sz := by rw [← Nat.add_mul]; congr 1; omega
          have h2 : m' * sz ≤ cap * sz := Nat.mul_le_mul_right _ g4
          omega
        split
        · rename_i hs
          have hmm := gm hs
          split
          · rename_i hhm
            have e : m' = h' := by omega
            subst e
            by_cases hml : m' = l
            · rw [if_pos hml]
              subst hml
              rw [Nat.sub_self]
              exact .clip hf hv hc (fun hne => absurd rfl hne)
            · rw [if_neg hml]
              obtain ⟨q, q1, q2, q3⟩ := hoo hml
              rw [q1]
              exact .clip hf hv hc (fun _ => ⟨q2, q3, rfl⟩)
          · exact .undef _
        · rename_i hs
          have hmc : m' = cap := gc (by simpa using hs)
          have hfull : (full && h' == len) = true → m' - l = h' - l := by
            intro hq
            simp at hq
            have := hfl hq.1; omega
          have hfin' : ver = σ.ver r → σ.fin r ≤ (off + l * sz) + (m' - l) * sz := by
            intro e
            have h0 := hfin e
            have h1 : l * sz + (m' - l) * sz = m' * sz := by rw [← Nat.add_mul]; congr 1; omega
            rw [← hmc] at h0
            omega
          by_cases hml : m' = l
          · rw [if_pos hml]
            subst hml
            exact .slice hf hv hc (by omega) (fun hne => absurd (Nat.sub_self _) hne) hfull hfin'
          · rw [if_neg hml]
            obtain ⟨q, q1, q2, q3⟩ := hoo hml
            rw [q1]
            exact .slice hf hv hc (by omega) (fun _ => ⟨q2, q3, rfl⟩) hfull hfin'
      · simp only [Instr.sliceAt, Sem.run_bind, run_underlying hu, Result.andThen_ok, Instr.slice, g5, sizeOf, typeInfo, hie, Sem.run_pure, run_program]
        split <;> rfl
  case h_3 e r off len ver sz hu =>
    split at h
    case h_2 => cases h
    rename_i ie hie
    split at h
    case isFalse => cases h
    rename_i hsz
    obtain ⟨⟨l, h', m⟩, hb, rfl⟩ := Option.map_eq_some_iff.1 h
    cases hx with
    | clip hf hv hc ho =>
      rename_i b o n sp d
      obtain ⟨g1, g2, m', g3, g4, gm, gc, g5⟩ := aBounds_sound (P := P) (isS := true) (cap := len) (Nat.le_refl _) hb (e1 lo) (e2 lo) (e1 hi) (e2 hi) (e1 mx) (e2 mx)
      refine ⟨.slice (some (if m' = l then ⟨b, o, sp⟩ else (⟨b, o, sp⟩ : Addr).add (l * ie.size))) (h' - l) (m' - l), ?_, fun w => ?_⟩
      · have hmm : (if (mx.map ρ).isSome = true then m else len) = m' := by
          split
          · rename_i hs; exact (gm hs).symm
          · rename_i hs; exact (gc (by simpa using hs)).symm
        simp only [hmm]
        split
        · rename_i hhm
          have e : m' = h' := hhm.symm
          subst e
          by_cases hml : m' = l
          · rw [if_pos hml]
            subst hml
            rw [Nat.sub_self]
            exact .clip hf hv hc (fun hne => absurd rfl hne)
          · rw [if_neg hml]
            obtain ⟨ho1, ho2, rfl⟩ := ho (by omega)
            rw [add_plain]
            refine .clip hf hv hc (fun _ => ⟨?_, ?_, rfl⟩)
            · rw [hsz]; push_cast; omega
            · have h1 : l * sz + (m' - l) * sz = m' * sz := by rw [← Nat.add_mul]; congr 1; omega
              have h2 : m' * sz ≤ len * sz := Nat.mul_le_mul_right _ g4
              rw [hsz]; omega
        · exact .undef _
      · simp only [Instr.sliceAt, Sem.run_bind, run_underlying hu, Result.andThen_ok, Instr.slice, g5, sizeOf, typeInfo, hie, Sem.run_pure, run_program]
        split <;> rfl
end
end Go.Proofs.Ytbimapbcpmeooaa.AX

/- A plain reading of runs: what the operations that leave memory alone answer. -/
namespace Go.Proofs.Ytbimapbcpmeooaa.AX
open Go Go.RowKit
section
variable {P : Program} {σ : Inj}

theorem aIndexAddr_sound {t : TypeId} {x i v : AV} {a j : Value} (h : aIndexAddr P t x i = some v) (hx : RelV σ x a) (hi : RelV σ i j) : ∃ c, RelV σ v c ∧ ∀ w, (Instr.indexAt t a j).run P w = .ok c w := by
  unfold aIndexAddr at h
  split at h
  case h_6 => cases h
  case h_3 n e g off k i hu =>
    split at h
    case h_2 => cases h
    rename_i ie hie
    split at h
    case isFalse => cases h
    rename_i hc
    obtain ⟨h0, h1⟩ := hc
    cases h
    cases hi
    cases hx
    refine ⟨.pointer (some ⟨g, off + i.toNat * ie.size, none⟩), .gptr _ _, fun w => ?_⟩
    simp [Instr.indexAt, asIntOf, run_underlying hu, h0, h1, sizeOf, typeInfo, hie, add_plain, Instr.sureAddr]
  case h_4 e r off len ver sz k i hu =>
    split at h
    case h_2 => cases h
    rename_i ie hie
    split at h
    case isFalse => cases h
    rename_i hc
    obtain ⟨hsz, h0, h1⟩ := hc
    cases h
    cases hi
    obtain ⟨b, o, n, sp, d, rfl, hf, hv, hcn, ho⟩ := hx.clipped
    obtain ⟨ho1, ho2, rfl⟩ := ho (by omega)
    refine ⟨.pointer (some ⟨b, o + i.toNat * sz, none⟩), .ptr hf (by push_cast; omega) hv hcn, fun w => ?_⟩
    simp [Instr.indexAt, asIntOf, run_underlying hu, h0, h1, sizeOf, typeInfo, hie, hsz, add_plain]
  case h_5 e r off len ver sz k i hu =>
    split at h
    case h_2 => cases h
    rename_i ie hie
    split at h
    case isFalse => cases h
    rename_i hc
    obtain ⟨hsz, h0, h1⟩ := hc
    cases h
    cases hi
    obtain ⟨b, o, n, cap, sp, d, rfl, hf, hv, hcn, hl, ho⟩ := hx.parted
    obtain ⟨ho1, ho2, rfl⟩ := ho (by omega)
    refine ⟨.pointer (some ⟨b, o + i.toNat * sz, none⟩), .ptr hf (by push_cast; omega) hv hcn, fun w => ?_⟩
    simp [Instr.indexAt, asIntOf, run_underlying hu, h0, h1, sizeOf, typeInfo, hie, hsz, add_plain]
  case h_1 e r off len ver sz full k i hu =>
    split at h
    case h_2 => cases h
    rename_i ie hie
    split at h
    case isFalse => cases h
    rename_i hc
    obtain ⟨hsz, h0, h1⟩ := hc
    cases h
    cases hi
    cases hx with
    | slice hf hv hcn hl ho hfl hfin =>
      rename_i b o n cap sp d
      obtain ⟨ho1, ho2, rfl⟩ := ho (by omega)
      refine ⟨.pointer (some ⟨b, o + i.toNat * sz, none⟩), .ptr hf (by push_cast; omega) hv hcn, fun w => ?_⟩
      simp [Instr.indexAt, asIntOf, run_underlying hu, h0, h1, sizeOf, typeInfo, hie, hsz, add_plain]
  case h_2 n e r off ver k i hu =>
    split at h
    case h_2 => cases h
    rename_i ie hie
    split at h
    case isFalse => cases h
    rename_i hc
    obtain ⟨h0, h1⟩ := hc
    cases h
    cases hi
    cases hx with
    | ptr hf ho hv hcn =>
      rename_i b o m d
      refine ⟨.pointer (some ⟨b, o + i.toNat * ie.size, none⟩), .ptr hf (by push_cast; omega) hv hcn, fun w => ?_⟩
      simp [Instr.indexAt, asIntOf, run_underlying hu, h0, h1, sizeOf, typeInfo, hie, add_plain, Instr.sureAddr]

theorem aIndex_sound {t : TypeId} {x i v : AV} {a j : Value} (h : aIndex P t x i = some v) (hx : RelV σ x a) (hi : RelV σ i j) : ∃ c, RelV σ v c ∧ ∀ w, (Instr.index t a j).run P w = .ok c w := by
  unfold aIndex at h
  split at h
  case h_3 => cases h
  case h_1 n e cs k i hu =>
    split at h
    case isFalse => cases h
    rename_i hc
    obtain ⟨ie, hie, h⟩ := Option.bind_eq_some_iff.1 h
    cases hi
    cases hx with
    | agg hcs =>
      rename_i cs'
      obtain ⟨c, h1, h2⟩ := aPart_sound h hcs
      refine ⟨c, h1, fun w => ?_⟩
      simp [Instr.index, asIntOf, run_underlying hu, hc.1, hc.2, sizeOf, typeInfo, hie, h2]
  case h_2 s k i hu =>
    split at h
    case isFalse => cases h
    rename_i h0
    obtain ⟨b, hb, rfl⟩ := Option.map_eq_some_iff.1 h
    cases hi
    cases hx with
    | str s =>
      refine ⟨.int .u8 b.toNat, .int _ _, fun w => ?_⟩
      have hb' : s[i.toNat]? = some b := by
        rw [Array.getElem?_toList] at hb
        rw [← hb]; rfl
      simp [Instr.index, asIntOf, run_underlying hu, h0, hb']

theorem aConv_sound {s d : TypeId} {x v : AV} {a : Value} (h : aConv P s d x = some v) (hx : RelV σ x a) : ∃ c, RelV σ v c ∧ ∀ w, (convert s d a).run P w = .ok c w := by
  unfold aConv at h
  split at h
  case h_4 => cases h
  case h_1 hd hs =>
    cases h; cases hx
    exact ⟨_, .int _ _, fun w => by simp [convert, run_underlying hd, run_underlying hs, Conv.intToInt]⟩
  case h_2 hd hs =>
    cases h; cases hx
    exact ⟨.string _, .str _, fun w => by simp [convert, run_underlying hd, run_underlying hs, Conv.intToString]⟩
  case h_3 hd hs =>
    cases h; cases hx
    exact ⟨.string _, .str _, fun w => by simp [convert, run_underlying hd, run_underlying hs]⟩

theorem aUn_sound {op : UnOp} {x v : AV} {a : Value} (h : aUn op x = some v) (hx : RelV σ x a) : ∃ c, RelV σ v c ∧ ∀ w, (Op.unary op a).run P w = .ok c w := by
  unfold aUn at h
  split at h
  case h_4 => cases h
  all_goals
    cases h; cases hx
    first
    | exact ⟨_, .int _ _, fun w => rfl⟩
    | exact ⟨_, .bool _, fun w => rfl⟩

theorem aAssert_sound {x v : AV} {a : Value} {xt t : TypeId} {ok : Bool} (h : aAssert P x t ok = some v) (hx : RelV σ x a) : ∃ c, RelV σ v c ∧ ∀ w, (Instr.typeAssert a xt t ok).run P w = .ok c w := by
  have hholds : ∀ {u : AV} {c : Value}, RelV σ u c → RelV σ (aHolds ok u) (if ok then .tuple #[c, .bool true] else c) := by
    intro u c hu
    unfold aHolds
    split
    · exact .tuple (.cons hu (.cons (.bool _) .nil))
    · exact hu
  have hfails : ∀ {u : AV} (_ : aFails P t ok = some u), ∃ z, RelV σ u (.tuple #[z, .bool false]) ∧ ok = true ∧ ∀ w, (zeroValue t).run P w = .ok z w := by
    intro u hu
    unfold aFails at hu
    split at hu
    · rename_i hok
      obtain ⟨z, hz, rfl⟩ := Option.map_eq_some_iff.1 hu
      obtain ⟨i, hi, hz⟩ := Option.bind_eq_some_iff.1 hz
      exact ⟨z, .tuple (.cons (relV_absV σ 3 z) (.cons (.bool _) .nil)), hok, fun w => by simp [zeroValue, typeInfo, hi, hz]⟩
    · cases hu
  unfold aAssert at h
  split at h
  case h_4 => cases h
  case h_1 want t' u hu =>
    cases hx with
    | iface _ hv =>
      split at h
      case h_2 => cases h
      rename_i i hi
      split at h
      · rename_i hm
        cases h
        refine ⟨_, hholds (.iface _ hv), fun w => ?_⟩
        simp [Instr.typeAssert, run_underlying hu, typeInfo, hi, hm]
      · rename_i m hm
        obtain ⟨z, h1, h2, h3⟩ := hfails h
        refine ⟨_, h1, fun w => ?_⟩
        simp [Instr.typeAssert, run_underlying hu, typeInfo, hi, hm, h2, h3]
  case h_2 d hu =>
    cases hx
    obtain ⟨z, h1, h2, h3⟩ := hfails h
    refine ⟨_, h1, fun w => ?_⟩
    cases d <;> simp [Instr.typeAssert, run_underlying hu, h2, h3]
  case h_3 d t' u _ hu =>
    cases hx with
    | iface _ hv =>
      split at h
      · cases h
      · rename_i hd
        split at h
        · rename_i ht
          cases h
          refine ⟨_, hholds hv, fun w => ?_⟩
          cases d <;> first | (exact absurd rfl hd) | simp [Instr.typeAssert, run_underlying hu, ht]
        · rename_i ht
          obtain ⟨z, h1, h2, h3⟩ := hfails h
          refine ⟨_, h1, fun w => ?_⟩
          cases d <;> first | (exact absurd rfl hd) | simp [Instr.typeAssert, run_underlying hu, ht, h2, h3]

theorem aLen_sound {t : TypeId} {x v : AV} {a : Value} {ts : Array TypeId} {ty : TypeId} {as : Array Value} (h : aLen P t x = some v) (hx : RelV σ x a) (ht : ts[0]? = some t) (ha : as[0]? = some a) :
    ∃ c, RelV σ v c ∧ ∀ w, (Builtin.len_ ts ty as).run P w = .ok c w := by
  unfold aLen at h
  split at h
  case h_8 => cases h
  case h_1 hu =>
    cases h; cases hx with | str s => ?_
    exact ⟨_, .int _ _, fun w => by simp only [Builtin.len_, ht, ha, Sem.run_bind, run_underlying hu, Result.andThen_ok]; rfl⟩
  case h_2 hu =>
    cases h
    exact ⟨_, .int _ _, fun w => by simp only [Builtin.len_, ht, ha, Sem.run_bind, run_underlying hu, Result.andThen_ok]; rfl⟩
  case h_3 hu =>
    cases h
    cases hx <;> exact ⟨_, .int _ _, fun w => by simp only [Builtin.len_, ht, ha, Sem.run_bind, run_underlying hu, Result.andThen_ok]; rfl⟩
  case h_4 hu =>
    cases h; cases hx
    exact ⟨_, .int _ _, fun w => by simp only [Builtin.len_, ht, ha, Sem.run_bind, run_underlying hu, Result.andThen_ok]; rfl⟩
  case h_5 hu =>
    cases h; cases hx
    exact ⟨_, .int _ _, fun w => by simp only [Builtin.len_, ht, ha, Sem.run_bind, run_underlying hu, Result.andThen_ok]; rfl⟩
  case h_6 hu =>
    cases h; cases hx
    exact ⟨_, .int _ _, fun w => by simp only [Builtin.len_, ht, ha, Sem.run_bind, run_underlying hu, Result.andThen_ok]; rfl⟩
  case h_7 p hu =>
    split at h
    case h_2 => cases h
    rename_i hp
    cases h
    exact ⟨_, .int _ _, fun w => by simp only [Builtin.len_, ht, ha, Sem.run_bind, run_underlying hu, run_underlying hp, Result.andThen_ok]; rfl⟩

theorem aPure_sound {ρ : Operand → AV} {ρc : Operand → Value} (hρ : ∀ x, RelV σ (ρ x) (ρc x)) {o : Oper} {v : AV} (h : aPure P ρ o.op = some v) : ∃ c, RelV σ v c ∧ ∀ w, (execOp ρc o).run P w = .ok (.value c) w := by
  have fin : ∀ {s : Sem Value} {v : AV}, (∃ c, RelV σ v c ∧ ∀ w, s.run P w = .ok c w) → ∃ c, RelV σ v c ∧ ∀ w, (do pure (Next.value (← s)) : Sem Next).run P w = .ok (.value c) w :=
    fun ⟨c, h1, h2⟩ => ⟨c, h1, fun w => run_v (h2 w)⟩
  unfold aPure at h
  unfold execOp
  split at h <;> first | (cases h; done) | skip
  all_goals (rename_i heq; rw [heq]; simp only [])
  case h_1 x => cases h; exact ⟨_, hρ x, fun w => rfl⟩
  case h_2 x => cases h; exact ⟨_, hρ x, fun w => rfl⟩
  case h_3 c a b =>
    have hc := hρ c
    split at h
    case h_2 => cases h
    rename_i t ht
    rw [ht] at hc
    cases hc' : ρc c <;> rw [hc'] at hc <;> cases hc
    cases h
    refine ⟨if t then ρc a else ρc b, ?_, fun w => by simp [asBool]⟩
    split
    · exact hρ a
    · exact hρ b
  case h_4 t parts =>
    obtain ⟨cells, h1, rfl⟩ := Option.map_eq_some_iff.1 h
    obtain ⟨C, h2, h3⟩ := aBuilt_sound h1 (RelPs.of_map hρ parts.toList)
    refine fin ⟨.agg C, .agg h3, fun w => run_build w t _ C ?_⟩
    rw [Array.toList_map]; exact h2
  case h_5 x =>
    have hx := hρ x
    unfold aNil at h
    split at h
    case h_4 => cases h
    all_goals
      rename_i hv
      rw [hv] at hx
      cases h
      generalize ρc x = c at hx ⊢
      cases hx
      refine ⟨_, ?_, fun w => rfl⟩
      constructor <;> assumption
  case h_6 op t x y yt =>
    split at h
    · rename_i v' hv'
      cases h
      exact fin (aBin_sound hv' (hρ x) (hρ y))
    · split at h
      · rename_i v' hv'
        cases h
        exact fin (aCmp_sound hv' (hρ x) (hρ y))
      · exact fin (aEqA_sound h (hρ x) (hρ y))
  case h_7 op t x => exact fin (aUn_sound h (hρ x))
  case h_8 s d x => exact fin (aConv_sound h (hρ x))
  case h_9 t x =>
    split at h
    case h_2 => cases h
    rename_i d hd
    split at h
    · cases h
    · rename_i hi
      cases h
      refine fin ⟨.iface t (ρc x), .iface t (hρ x), fun w => ?_⟩
      simp only [Instr.makeInterface, Sem.run_bind, run_underlying hd, Result.andThen_ok]
      cases d <;> first | exact absurd rfl hi | rfl
  case h_10 fn first captured =>
    cases h
    refine fin ⟨.func fn (first.map ρc) (captured.map ρc), .func fn ?_ ?_, fun w => rfl⟩
    · rw [Array.toList_map]; exact RelVs.of_ops hρ _
    · rw [Array.toList_map]; exact RelVs.of_ops hρ _
  case h_11 t x lo hi mx => exact fin (aSlice_sound hρ h (hρ x))
  case h_12 s x f =>
    have hx := hρ x
    unfold aFieldAddr at h
    split at h
    case h_3 => cases h
    case h_2 fields g off hu hv =>
      rw [hv] at hx
      obtain ⟨fd, hf, h⟩ := Option.bind_eq_some_iff.1 h
      obtain ⟨i, hi, h⟩ := Option.bind_eq_some_iff.1 h
      split at h
      · cases h
      rename_i hs
      cases h
      generalize ρc x = c at hx ⊢
      cases hx
      refine fin ⟨.pointer (some ⟨g, off + fd.offset, none⟩), .gptr _ _, fun w => ?_⟩
      simp [Instr.fieldAt, run_underlying hu, hf, Instr.sureAddr, fieldPlace, sizeOf, typeInfo, hi, hs, add_plain]
    rename_i fields r off ver hu hv
    rw [hv] at hx
    obtain ⟨fd, hf, h⟩ := Option.bind_eq_some_iff.1 h
    obtain ⟨i, hi, h⟩ := Option.bind_eq_some_iff.1 h
    split at h
    · cases h
    rename_i hs
    cases h
    generalize ρc x = c at hx ⊢
    cases hx with
    | ptr hfm ho hver hc =>
      rename_i b o n d
      refine fin ⟨.pointer (some ⟨b, o + fd.offset, none⟩), .ptr hfm (by push_cast; omega) hver hc, fun w => ?_⟩
      simp [Instr.fieldAt, run_underlying hu, hf, Instr.sureAddr, fieldPlace, sizeOf, typeInfo, hi, hs, add_plain]
  case h_13 t x f =>
    have hx := hρ x
    unfold aField at h
    split at h
    case h_2 => cases h
    rename_i fields cs hu hv
    rw [hv] at hx
    obtain ⟨fd, hf, h⟩ := Option.bind_eq_some_iff.1 h
    generalize ρc x = c at hx ⊢
    cases hx with
    | agg hcs =>
      obtain ⟨c, h1, h2⟩ := aPart_sound h hcs
      refine fin ⟨c, h1, fun w => ?_⟩
      simp [Instr.field, run_underlying hu, hf, asAgg, h2]
  case h_14 t x i => exact fin (aIndexAddr_sound h (hρ x) (hρ i))
  case h_15 t x i => exact fin (aIndex_sound h (hρ x) (hρ i))
  case h_16 x xt t ok => exact fin (aAssert_sound h (hρ x))
  case h_17 x i =>
    have hx := hρ x
    split at h
    case h_2 => cases h
    rename_i vs hv
    rw [hv] at hx
    generalize ρc x = c at hx ⊢
    cases hx with
    | tuple hvs =>
      obtain ⟨c, h1, h2⟩ := hvs.get h
      rw [Array.getElem?_toList] at h1
      exact fin ⟨c, h2, fun w => by simp [Instr.extract, h1]⟩
  case h_18 args ts =>
    split at h
    case h_2 => cases h
    rename_i t x ht hx
    have := aLen_sound (ty := o.type) (as := args.map ρc) h (hρ x) ht (by simp [hx])
    obtain ⟨c, h1, h2⟩ := this
    exact ⟨c, h1, fun w => by simp [resolve, invoke, builtin, h2]⟩
  case h_19 args ts =>
    have := RelVs.of_ops hρ args.toList
    cases hl : args.toList with
    | nil => rw [hl] at h; cases h
    | cons x l =>
      rw [hl] at h
      simp only [List.map_cons, aMin] at h
      obtain ⟨c, h1, h2⟩ := aMin_sound (P := P) h (hρ x) (RelVs.of_ops hρ l)
      exact ⟨c, h1, fun w => by simp [resolve, invoke, builtin, Builtin.min_, hl, h2]⟩
  case h_20 args ts =>
    have := RelVs.of_ops hρ args.toList
    cases hl : args.toList with
    | nil => rw [hl] at h; cases h
    | cons x l =>
      rw [hl] at h
      simp only [List.map_cons, aMax] at h
      obtain ⟨c, h1, h2⟩ := aMax_sound (P := P) h (hρ x) (RelVs.of_ops hρ l)
      exact ⟨c, h1, fun w => by simp [resolve, invoke, builtin, Builtin.max_, hl, h2]⟩
  case h_21 args ts =>
    split at h
    case h_2 => cases h
    rename_i t x ht hx
    unfold aCap at h
    split at h
    case h_2 => cases h
    rename_i hu hv
    cases h
    have hr := hρ x
    rw [hv] at hr
    generalize hc : ρc x = c at hr
    cases hr
    refine ⟨_, .int .i64 0, fun w => ?_⟩
    have hx2 : (args.map ρc)[0]? = some (.slice none 0 0) := by simp [hx, hc]
    simp [resolve, invoke, builtin, Builtin.cap_, ht, hx, hc, run_underlying hu]
    rfl
end
end Go.Proofs.Ytbimapbcpmeooaa.AX

/- A plain reading of runs: operations that read or write memory. -/
namespace Go.Proofs.Ytbimapbcpmeooaa.AX
open Go Go.RowKit

/-- What a package's variable holds. -/
def gfind : AH → Nat → Option (List AV)
  | [], _ => none
  | .gvar g' cells :: H, g => if g' = g then some cells else gfind H g
  | _ :: H, g => gfind H g
theorem gfind_mem : ∀ {H : AH} {g : Nat} {cells : List AV}, gfind H g = some cells → ∃ r : Nat, H[r]? = some (AObj.gvar g cells)
  | .gvar g' c :: H, g, cells, h => by
    simp only [gfind] at h
    split at h
    · rename_i e; cases h; exact ⟨0, by simp [e]⟩
    · obtain ⟨r, hr⟩ := gfind_mem h; exact ⟨r + 1, by simpa using hr⟩
  | .row _ _ _ _ :: H, g, cells, h => by
    obtain ⟨r, hr⟩ := gfind_mem (H := H) (by simpa [gfind] using h); exact ⟨r + 1, by simpa using hr⟩
  | .map _ :: H, g, cells, h => by
    obtain ⟨r, hr⟩ := gfind_mem (H := H) (by simpa [gfind] using h); exact ⟨r + 1, by simpa using hr⟩
  | .iter _ _ :: H, g, cells, h => by
    obtain ⟨r, hr⟩ := gfind_mem (H := H) (by simpa [gfind] using h); exact ⟨r + 1, by simpa using hr⟩
  | .loop _ _ _ :: H, g, cells, h => by
    obtain ⟨r, hr⟩ := gfind_mem (H := H) (by simpa [gfind] using h); exact ⟨r + 1, by simpa using hr⟩

/-- Nothing of row r lies behind place e. -/
def endOk (H : AH) (r e : Nat) : Bool := match H[r]? with
  | some (.row cells _ _ ro) => ro || decide (cells.length ≤ e)
  | _ => false

/-- A slice of an array, whatever lies behind the array. -/
def partOf : Bool → Nat → Nat → Nat → Nat → Nat → AV
  | true, r, off, len, ver, sz => .slice (some r) off len ver sz false
  | false, r, off, len, ver, sz => .part r off len ver sz

/-- A slice's parts. -/
def slParts : AV → Option (Nat × Nat × Nat × Nat × Nat)
  | .slice (some r) off len ver sz _ => some (r, off, len, ver, sz)
  | .clip r off len ver sz => some (r, off, len, ver, sz)
  | _ => none
def isNilSl : AV → Bool
  | .slice none _ _ _ _ _ => true
  | _ => false

/-- The operations that look at memory and leave it alone. -/
def aRead (P : Program) (ρ : Operand → AV) (H : AH) : Op → Option AV
  | .load t x =>
    match P.underlying t, P.info? t, ρ x with
    | some d, some i, .ptr r off ver => if isAggD d then (ldn H r ver i.size off).map .agg else ld H r off ver
    | some d, some i, .gptr g off => (gfind H g).bind fun cells => if isAggD d then (takeKnown i.size (cells.drop off)).map .agg else known cells[off]?
    | _, _, _ => none
  | .slice t x lo hi mx =>   -- of an array behind a pointer
    match P.underlying t, ρ x with
    | some (.array n e), .ptr r off ver =>
      match P.info? e with
      | some ie =>
        if 0 < n ∧ 0 < ie.size ∧ (ld H r (off + n * ie.size - 1) ver).isSome ∧ mx.isNone = true then
          (aBounds n (lo.map ρ) (hi.map ρ) (mx.map ρ)).map fun (l, h, _) => partOf (endOk H r (off + n * ie.size)) r (off + l * ie.size) (h - l) ver ie.size
        else none
      | none => none
    | some (.slice e), .slice (some r) off _ ver sz _ =>   -- beyond its length
      match P.info? e, H[r]? with
      | some ie, some (.row cells v _ false) => if v = ver ∧ ie.size = sz ∧ 0 < sz ∧ hi.isSome ∧ mx = none then
          (aBounds ((cells.length - off) / sz) (lo.map ρ) (hi.map ρ) none).map fun (l, h, _) => .slice (some r) (off + l * sz) (h - l) ver sz false
        else none
      | _, _ => none
    | _, _ => none
  | _ => none

/-- The cells that an argument of append or copy yields: their number of elements, and the cells. -/
def aSrc (P : Program) (H : AH) (t : TypeId) (size : Nat) (x : AV) : Option (Nat × List AV) :=
  match P.underlying t, x with
  | some (.slice _), .slice none _ 0 _ _ _ => some (0, [])
  | some (.slice _), .slice (some r) off len ver sz _ => if sz = size ∧ 0 < len then ((ldn H r ver (len * sz) off).map fun vs => (len, vs)) else if len = 0 then some (0, []) else none
  | some (.slice _), .clip r off len ver sz => if sz = size ∧ 0 < len then ((ldn H r ver (len * sz) off).map fun vs => (len, vs)) else if len = 0 then some (0, []) else none
  | some .string, .str s => if size = 1 then some (s.length, s.map fun b => .int .u8 b.toNat) else none
  | _, _ => none

/-- Appended where there is room for certain. -/
def inPlace (H : AH) (r off len n ver sz : Nat) (vs : List AV) : Option AH := match H[r]? with
  | some (.row cells v _ false) => if v = ver ∧ off + (len + n) * sz ≤ cells.length then stn H r ver vs (off + len * sz) else none
  | _ => none

def aAppend (P : Program) (H : AH) (t tx : TypeId) (s x : AV) : Option (AV × AH) :=
  match P.underlying t with
  | some (.slice e) =>
    match tiOf P e with
    | some I =>
      if 0 < I.size ∧ I.bytes ≤ 4096 then
        (aSrc P H tx I.size x).bind fun (n, vs) =>
          if vs.all AV.one && vs.length == n * I.size then
          match s with
          | .slice none _ 0 _ _ _ => if n = 0 then some (.slice none 0 0 0 1 false, H) else if n ≤ 16777216 then some (.slice (some H.length) 0 n 0 I.size false, H ++ [.row vs 0 0 false]) else none
          | .slice (some r) off len ver sz full =>
            if n = 0 then some (.slice (some r) off len ver sz full, H) else
            if sz = I.size ∧ len + n ≤ 16777216 then
              if full then (ldn H r ver (len * sz) off).map fun olds => (.slice (some H.length) 0 (len + n) 0 sz false, H ++ [.row (olds ++ vs) 0 0 false])
              else match inPlace H r off len n ver sz vs with
                | some H' => some (.slice (some r) off (len + n) ver sz false, H')
                | none => (grow H r off (len * sz) ver vs).map fun (H', v') => (.slice (some r) off (len + n) v' sz false, H')
            else none
          | .clip r off len ver sz =>
            if n = 0 then some (.clip r off len ver sz, H) else
            if sz = I.size ∧ len + n ≤ 16777216 then
              (ldn H r ver (len * sz) off).map fun olds => (.slice (some H.length) 0 (len + n) 0 sz false, H ++ [.row (olds ++ vs) 0 0 false])
            else none
          | _ => none
          else none
      else none
    | none => none
  | _ => none

/-- append(nil, make(.., n)...), as the text has it. -/
def aAppMake (P : Program) (H : AH) (t tx : TypeId) (s x : AV) : Option (AV × AH) :=
  match P.underlying t, P.underlying tx, s, x with
  | some (.slice e), some (.int _), .slice none _ _ _ _ _, .int .i64 n =>
    match tiOf P e with
    | some I =>
      if 0 < n ∧ n ≤ 16777216 ∧ I.bytes ≤ 4096 ∧ 0 < I.size then
        some (.slice (some H.length) 0 n.toNat 0 I.size false, H ++ [.row ((List.range (n.toNat * I.size)).map fun i => (I.zero[i % I.zero.length]?).getD .undef) 0 0 false])
      else none
    | none => none
  | _, _, _, _ => none
def orApp : Option (AV × AH) → Option (AV × AH) → Option (AV × AH)
  | some r, _ => some r
  | none, q => q
@[simp] theorem orApp_some (r : AV × AH) (q : Option (AV × AH)) : orApp (some r) q = some r := rfl
def aCopy (P : Program) (H : AH) (t : TypeId) (d s : AV) : Option (AV × AH) :=
  match P.underlying t with
  | some (.slice e) =>
    match P.info? e with
    | some ie =>
      if isNilSl d && (isNilSl s || (slParts s).isSome) then some (.int .i64 0, H)
      else if isNilSl s && (slParts d).isSome then some (.int .i64 0, H)
      else match slParts d, slParts s with
        | some (r, off, len, ver, sz), some (r2, off2, len2, ver2, sz2) =>
          if min len2 len = 0 then some (.int .i64 0, H)
          else if sz = ie.size ∧ sz2 = ie.size then
            (ldn H r2 ver2 (min len2 len * ie.size) off2).bind fun vs => if vs.all AV.one then (stn H r ver vs off).map fun H' => (.int .i64 (min len2 len : Nat), H') else none
          else none
        | _, _ => none
    | none => none
  | _ => none

def aClear (P : Program) (H : AH) (t : TypeId) (x : AV) : Option AH :=
  match P.underlying t with
  | some (.slice e) =>
    match tiOf P e with
    | some I =>
      if isNilSl x then some H
      else match slParts x with
        | some (r, off, len, ver, sz) =>
          if len = 0 then some H
          else if sz = I.size ∧ 0 < sz then stn H r ver ((List.range (len * sz)).map fun i => (I.zero[i % I.zero.length]?).getD .undef) off
          else none
        | none => none
    | none => none
  | _ => none

/-- The operations that write or make memory. -/
def aWrite (P : Program) (ρ : Operand → AV) (H : AH) : Op → Option (Option AV × AH)
  | .store t x y =>
    match P.info? t, ρ x with
    | some i, .ptr r off ver => if (ρ y).isU || (acells (ρ y)).length != i.size then none else (stn H r ver (acells (ρ y)) off).map fun H' => (none, H')
    | _, _ => none
  | .alloc t => (tiOf P t).map fun I => (some (.ptr H.length 0 0), H ++ [.row I.zero 0 0 false])
  | .box _ x => if (ρ x).isU then none else some (some (.ptr H.length 0 0), H ++ [.row (acells (ρ x)) 0 0 false])
  | .buildSlice t len parts =>
    match P.underlying t with
    | some (.slice e) =>
      match tiOf P e with
      | some I =>
        if len * I.size ≤ 16777216 ∧ (len = 0 ∨ 0 < I.size) then
          (aFill (fun i => some (i * I.size, I.size)) ((List.range (len * I.size)).map fun i => (I.zero[i % I.zero.length]?).getD .undef) (parts.toList.map fun x => (x.1, ρ x.2))).map fun cells =>
            (some (.slice (some H.length) 0 len 0 I.size false), H ++ [.row cells 0 cells.length false])
        else none
      | none => none
    | _ => none
  | .makeSlice t l c =>
    match P.underlying t, ρ l, ρ c with
    | some (.slice e), .int .i64 l, .int .i64 c =>
      match tiOf P e with
      | some I =>
        if 0 ≤ l ∧ l ≤ c ∧ c ≤ 16777216 ∧ I.bytes ≤ 4096 ∧ 0 < I.size then
          some (some (.slice (some H.length) 0 l.toNat 0 I.size false), H ++ [.row ((List.range (l.toNat * I.size)).map fun i => (I.zero[i % I.zero.length]?).getD .undef) 0 0 false])
        else none
      | none => none
    | _, _, _ => none
  | .call { callee := .builtin .append, args, argTypes } =>
    match argTypes[0]?, argTypes[1]?, args[0]?, args[1]? with
    | some t, some tx, some s, some x => if argTypes.size = 2 ∧ args.size = 2 then (orApp (aAppend P H t tx (ρ s) (ρ x)) (aAppMake P H t tx (ρ s) (ρ x))).map fun (v, H') => (some v, H') else none
    | _, _, _, _ => none
  | .call { callee := .builtin .copy, args, argTypes } =>
    match argTypes[0]?, args[0]?, args[1]? with
    | some t, some d, some s => (aCopy P H t (ρ d) (ρ s)).map fun (v, H') => (some v, H')
    | _, _, _ => none
  | .call { callee := .builtin .clear, args, argTypes } =>
    match argTypes[0]?, args[0]? with
    | some t, some x => (aClear P H t (ρ x)).map fun H' => (some (.tuple []), H')
    | _, _ => none
  | _ => none

section
variable {P : Program} {base : Nat} {w0 w : World} {σ : Inj} {H : AH}

theorem takeKnown_range {σ : Inj} : ∀ {n : Nat} {l vs : List AV} {cs : List Value}, takeKnown n l = some vs → RelVs σ l cs → ∃ cs' : List Value, (∀ (j : Nat) (u : Value), cs'[j]? = some u → cs[j]? = some u) ∧ cs'.length = n ∧ RelVs σ vs cs' := by
  intro n
  induction n with
  | zero => intro l vs cs h _; simp [takeKnown] at h; subst h; exact ⟨[], by simp, rfl, .nil⟩
  | succ n ih =>
    intro l vs cs h hr
    cases hr with
    | nil => simp [takeKnown] at h
    | cons h1 h2 =>
      rename_i v c l' cs'
      rw [takeKnown_succ] at h
      simp only [List.getElem?_cons_zero, List.drop_succ_cons, List.drop_zero, Option.bind_eq_some_iff, Option.map_eq_some_iff] at h
      obtain ⟨u, hu, l2, hl, rfl⟩ := h
      obtain ⟨e, -⟩ := known_some hu
      cases e
      obtain ⟨cs2, g1, g2, g3⟩ := ih hl h2
      exact ⟨c :: cs2, fun j u hj => by cases j with
        | zero => simpa using hj
        | succ j => simpa using g1 j u (by simpa using hj), by simp [g2], .cons h1 g3⟩

theorem aRead_sound {ρ : Operand → AV} {ρc : Operand → Value} (hρ : ∀ x, RelV σ (ρ x) (ρc x)) (S : Sim base w0 σ H w) {o : Oper} {v : AV} (h : aRead P ρ H o.op = some v) : ∃ c, RelV σ v c ∧ (execOp ρc o).run P w = .ok (.value c) w := by
  unfold aRead at h
  unfold execOp
  split at h <;> first | (cases h; done) | skip
  all_goals (rename_i heq; rw [heq]; simp only [])
  case h_1 t x =>
    have hx := hρ x
    split at h
    case h_3 => cases h
    case h_2 d i g off hu hi hv =>
      rw [hv] at hx
      obtain ⟨cells, hg, h⟩ := Option.bind_eq_some_iff.1 h
      obtain ⟨r, hr⟩ := gfind_mem hg
      obtain ⟨hlt, C, e, fz, hw0, hrel⟩ := S.gvars _ _ _ hr
      have hw : w.heap[g]? = some (.cells C e fz) := by rw [S.below.block _ hlt]; exact hw0
      generalize ρc x = c at hx ⊢
      cases hx
      split at h
      · rename_i hd
        obtain ⟨vs, h1, rfl⟩ := Option.map_eq_some_iff.1 h
        obtain ⟨cs, h2, h3, h4⟩ := takeKnown_range h1 (hrel.drop off)
        refine ⟨.agg cs.toArray, .agg (by simpa using h4), run_v ?_⟩
        refine run_loadAt_mid w g off t cs d (fun j u hj => ?_) hu (by cases d <;> first | rfl | exact absurd hd (by simp [isAggD])) (by simp [hi, h3])
        rw [cell_of hw]
        have := h2 j u hj
        rw [List.getElem?_drop] at this
        simpa using this
      · rename_i hd
        obtain ⟨h1, -⟩ := known_some h
        obtain ⟨c, h2, h3⟩ := hrel.get h1
        refine ⟨c, h3, run_v ?_⟩
        have h2' : w.cell? ⟨g, off, none⟩ = some c := by rw [cell_of hw]; simpa using h2
        simp [Instr.loadAt, Instr.sureAddr, loadVar, run_isAgg hu, hd, h2']
    rename_i d i r off ver hu hi hv
    rw [hv] at hx
    generalize ρc x = c at hx ⊢
    cases hx with
    | ptr hf ho hver hc =>
      rename_i b o n d'
      split at h
      · rename_i hd
        obtain ⟨vs, h1, rfl⟩ := Option.map_eq_some_iff.1 h
        obtain ⟨cs, h2, h3, h4⟩ := S.ldn h1 hf ho hc
        refine ⟨.agg cs.toArray, .agg (by simpa using h4), run_v ?_⟩
        exact run_loadAt_mid w b o t cs d h2 hu (by cases d <;> first | rfl | exact absurd hd (by simp [isAggD])) (by simp [hi, h3])
      · rename_i hd
        obtain ⟨_, c, h2, h3⟩ := S.ld h hf ho hc
        refine ⟨c, h3, run_v ?_⟩
        simp [Instr.loadAt, Instr.sureAddr, loadVar, run_isAgg hu, hd, h2]
  case h_2 t x lo hi mx =>
    have hx := hρ x
    have e1 : ∀ (o : Option Operand) v, o.map ρ = some v → ∃ c, o.map ρc = some c ∧ RelV σ v c := fun o v ho => by
      cases o with
      | none => simp at ho
      | some y => simp at ho; subst ho; exact ⟨_, rfl, hρ y⟩
    have e2 : ∀ (o : Option Operand), o.map ρ = none → o.map ρc = none := fun o ho => by cases o <;> simp_all
    split at h
    case h_3 => cases h
    case h_2 e r off len ver sz full hu hv =>
      rw [hv] at hx
      split at h
      case h_2 => cases h
      rename_i ie cells v s hie hr
      split at h
      case isFalse => cases h
      rename_i hcond
      obtain ⟨hver, hsz, hpos, hhi, hmx⟩ := hcond
      subst hmx
      obtain ⟨⟨l, h', m⟩, hb, rfl⟩ := Option.map_eq_some_iff.1 h
      have R := S.rows _ _ _ _ _ hr
      generalize ρc x = c at hx ⊢
      cases hx with
      | slice hf hv' hc hl ho hfl hfin =>
        rename_i b o k cap sp d
        have hf1 := hfin (by rw [R.ver]; exact hver.symm)
        rw [R.fin] at hf1
        simp only [Bool.false_eq_true, if_false] at hf1
        have hq : (cells.length - off) / sz ≤ cap := by
          refine Nat.div_le_of_le_mul ?_
          rw [Nat.mul_comm]; omega
        obtain ⟨g1, g2, m', g3, g4, gm, gc, g5⟩ := aBounds_sound (P := P) (isS := true) (cap := cap) hq hb (e1 lo) (e2 lo) (e1 hi) (e2 hi) (mx' := none) (fun v h => by cases h) (fun _ => rfl)
        have hmc : m' = cap := gc rfl
        obtain ⟨hi0, rfl⟩ := Option.isSome_iff_exists.1 hhi
        have g5' : ∀ w, (Instr.sliceBounds true len cap (lo.map ρc) (some (ρc hi0)) none).run P w = .ok (l, h', m') w := fun w => by
          have := g5 w
          simp only [Option.map_some, Instr.sliceBounds] at this ⊢
          exact this
        refine ⟨.slice (some (if m' = l then ⟨b, o, sp⟩ else (⟨b, o, sp⟩ : Addr).add (l * ie.size))) (h' - l) (m' - l), ?_, run_v ?_⟩
        · show RelV σ (.slice (some r) (off + l * sz) (h' - l) ver sz false) _
          have hfin' : ver = σ.ver r → σ.fin r ≤ (off + l * sz) + (m' - l) * sz := by
            intro e
            have h0 := hfin e
            have h1 : l * sz + (m' - l) * sz = m' * sz := by rw [← Nat.add_mul]; congr 1; omega
            rw [← hmc] at h0
            omega
          by_cases hml : m' = l
          · rw [if_pos hml]
            subst hml
            exact .slice hf hv' hc (by omega) (fun hne => absurd (Nat.sub_self _) hne) (fun h => by cases h) hfin'
          · rw [if_neg hml]
            have hcap : cap ≠ 0 := by omega
            obtain ⟨ho1, ho2, rfl⟩ := ho hcap
            rw [hsz, add_plain]
            have h1 : l * sz + (m' - l) * sz = m' * sz := by rw [← Nat.add_mul]; congr 1; omega
            have h2 : m' * sz ≤ cap * sz := Nat.mul_le_mul_right _ g4
            exact .slice hf hv' hc (by omega) (fun _ => ⟨by push_cast; omega, by omega, rfl⟩) (fun h => by cases h) hfin'
        · simp only [Instr.sliceAt, Sem.run_bind, run_underlying hu, Result.andThen_ok, Instr.slice, Option.map_some, Option.map_none, g5', sizeOf, typeInfo, hie, Sem.run_pure, run_program]
          split <;> rfl
    rename_i n e r off ver hu hv
    rw [hv] at hx
    split at h
    case h_2 => cases h
    rename_i ie hie
    split at h
    case isFalse => cases h
    rename_i hcond
    obtain ⟨hn, hs, hl, hmx⟩ := hcond
    obtain ⟨last, hlast⟩ := Option.isSome_iff_exists.1 hl
    obtain ⟨⟨l, h', m⟩, hb, rfl⟩ := Option.map_eq_some_iff.1 h
    generalize ρc x = c at hx ⊢
    cases hx with
    | ptr hf ho hver hc =>
      rename_i b o k d
      have hmul : 0 < n * ie.size := Nat.mul_pos hn hs
      obtain ⟨_, cl, hcl, _⟩ := S.ld hlast (b := b) (o := o + n * ie.size - 1) hf (by omega) hc
      have hsz : o + n * ie.size ≤ k := by
        have hr : ∃ cells v s ro, H[r]? = some (.row cells v s ro) := by
          unfold AX.ld at hlast
          split at hlast
          case h_2 => cases hlast
          rename_i cells v s ro hr
          exact ⟨cells, v, s, ro, hr⟩
        obtain ⟨cells, v, s, ro, hr⟩ := hr
        obtain ⟨_, ⟨c0, e0, f0, g1, g2, _⟩, _⟩ := (S.rows _ _ _ _ _ hr).all b d k hf
        rw [cell_of g1] at hcl
        rcases Nat.lt_or_ge (o + n * ie.size - 1) c0.size with h1 | h1
        · omega
        · rw [Array.getElem?_eq_none h1] at hcl; cases hcl
      obtain ⟨g1, g2, m', g3, g4, _, gmn, g5⟩ := aBounds_sound (P := P) (isS := false) (cap := n) (Nat.le_refl _) hb (e1 lo) (e2 lo) (e1 hi) (e2 hi) (e1 mx) (e2 mx)
      refine ⟨.slice (some (if m' = l then ⟨b, o, none⟩ else (⟨b, o, none⟩ : Addr).add (l * ie.size))) (h' - l) (m' - l), ?_, run_v ?_⟩
      · show RelV σ (partOf (endOk H r (off + n * ie.size)) r (off + l * ie.size) (h' - l) ver ie.size) _
        cases hend : endOk H r (off + n * ie.size) with
        | false =>
          show RelV σ (.part r (off + l * ie.size) (h' - l) ver ie.size) _
          split
          · rename_i hml
            subst hml
            exact .part hf hver hc (by omega) (fun hne => absurd (by omega) hne)
          · rw [add_plain]
            refine .part hf hver hc (by omega) (fun _ => ⟨?_, ?_, rfl⟩)
            · push_cast; omega
            · have h1 : l * ie.size + (h' - l) * ie.size = h' * ie.size := by rw [← Nat.add_mul]; congr 1; omega
              have h2 : h' * ie.size ≤ n * ie.size := Nat.mul_le_mul_right _ (by omega)
              omega
        | true =>
        show RelV σ (.slice (some r) (off + l * ie.size) (h' - l) ver ie.size false) _
        have hmn : m' = n := gmn (by cases mx <;> first | rfl | (simp at hmx))
        have hfin' : ver = σ.ver r → σ.fin r ≤ (off + l * ie.size) + (m' - l) * ie.size := by
          intro _
          unfold endOk at hend
          split at hend
          case h_2 => cases hend
          rename_i cells v s ro hr
          rw [(S.rows _ _ _ _ _ hr).fin]
          have h1 : l * ie.size + (m' - l) * ie.size = m' * ie.size := by rw [← Nat.add_mul]; congr 1; omega
          rw [hmn] at h1
          cases ro with
          | true => simp
          | false => simp at hend ⊢; rw [hmn]; omega
        split
        · rename_i hml
          subst hml
          exact .slice hf hver hc (by omega) (fun hne => absurd (Nat.sub_self _) hne) (fun h => by cases h) hfin'
        · rw [add_plain]
          refine .slice hf hver hc (by omega) (fun _ => ⟨?_, ?_, rfl⟩) (fun h => by cases h) hfin'
          · push_cast; omega
          · have h1 : l * ie.size + (m' - l) * ie.size = m' * ie.size := by rw [← Nat.add_mul]; congr 1; omega
            have h2 : m' * ie.size ≤ n * ie.size := Nat.mul_le_mul_right _ g4
            omega
      · simp [Instr.sliceAt, run_underlying hu, Instr.sureAddr, g5, sizeOf, typeInfo, hie]
end
end Go.Proofs.Ytbimapbcpmeooaa.AX

/- A plain reading of runs: what the operations that write or make memory do. -/
namespace Go.Proofs.Ytbimapbcpmeooaa.AX
open Go Go.RowKit
section
variable {P : Program} {base : Nat} {w0 w : World} {σ : Inj} {H : AH}

def NextOk (σ : Inj) : Option AV → Next → Prop
  | some v, .value c => RelV σ v c
  | none, .skip => True
  | _, _ => False

theorem byteCells_rel (s : ByteArray) : RelVs σ (s.data.toList.map fun b => AV.int .u8 b.toNat) (byteCells s) := by
  unfold byteCells
  generalize s.data.toList = l
  induction l with
  | nil => exact .nil
  | cons b l ih => exact .cons (.int _ _) ih

theorem aSrc_sound (S : Sim base w0 σ H w) {tx : TypeId} {size : Nat} {x : AV} {a : Value} {n : Nat} {vs : List AV} (h : aSrc P H tx size x = some (n, vs)) (hx : RelV σ x a) (h1 : vs.all AV.one = true) (hl : vs.length = n * size) :
    ∃ news, Src P size tx a n news w ∧ RelVs σ vs news := by
  have hone : ∀ v ∈ vs, v.one = true := by simpa using h1
  unfold aSrc at h
  split at h
  case h_5 => cases h
  case h_3 e r off len ver sz hu =>
    cases hx with
    | clip hf hv hc ho =>
      rename_i b o m sp d
      split at h
      · rename_i hcond
        obtain ⟨rfl, hpos⟩ := hcond
        obtain ⟨vs', h2, h3⟩ := Option.map_eq_some_iff.1 h
        cases h3
        obtain ⟨ho1, ho2, rfl⟩ := ho (by omega)
        obtain ⟨cs, g1, g2, g3⟩ := S.ldn h2 hf ho1 hc
        exact ⟨cs, Src.ofSlice w hu ⟨b, o, none⟩ _ _ cs g2 (fun j u hj => by rw [add_plain]; exact g1 j u hj) (g3.one hone), g3⟩
      · split at h
        · rename_i h0
          subst h0
          cases h
          exact ⟨[], Src.ofSlice w hu ⟨b, o, sp⟩ 0 _ [] (by simp) (fun j u hj => by simp at hj) (by simp), .nil⟩
        · cases h
  case h_1 e off ver sz full hu =>
    cases h
    cases hx
    exact ⟨[], Src.ofNil w hu 0, .nil⟩
  case h_2 e r off len ver sz full hu =>
    cases hx with
    | slice hf hv hc hlc ho hfl hfin =>
      rename_i b o m cap sp d
      split at h
      · rename_i hcond
        obtain ⟨rfl, hpos⟩ := hcond
        obtain ⟨vs', h2, h3⟩ := Option.map_eq_some_iff.1 h
        cases h3
        obtain ⟨ho1, ho2, rfl⟩ := ho (by omega)
        obtain ⟨cs, g1, g2, g3⟩ := S.ldn h2 hf ho1 hc
        exact ⟨cs, Src.ofSlice w hu ⟨b, o, none⟩ _ cap cs g2 (fun j u hj => by rw [add_plain]; exact g1 j u hj) (g3.one hone), g3⟩
      · split at h
        · rename_i h0
          subst h0
          cases h
          exact ⟨[], Src.ofSlice w hu ⟨b, o, sp⟩ 0 cap [] (by simp) (fun j u hj => by simp at hj) (by simp), .nil⟩
        · cases h
  case h_4 s hu =>
    split at h
    case isFalse => cases h
    rename_i hs
    subst hs
    cases h
    cases hx with | str s => ?_
    exact ⟨byteCells s, Src.ofString w hu s, byteCells_rel s⟩

theorem zeroCells_size (zero : Array Value) (n : Nat) : (Builtin.zeroCells zero n).size = n * zero.size := by
  simp [Builtin.zeroCells]

theorem aAppend_clip (S : Sim base w0 σ H w) {t tx ty e : TypeId} {i : TypeInfo} {z : Value} {I : TI} {v : AV} {a b : Value} {H' : AH} {n r off len ver sz : Nat} {vs : List AV} {news : List Value} (hu : P.underlying t = some (.slice e))
    (hi : P.info? e = some i) (hz : i.zero = some z) (hsz : i.size = I.size) (hby : i.bytes = I.bytes) (hzs : z.cells.size = I.size) (_hpos : 0 < I.size) (hbytes : I.bytes ≤ 4096)
    (hS : Src P I.size tx b n news w) (hS' : Src P i.size tx b n news w) (hnews : RelVs σ vs news) (hvs : vs.all AV.one = true ∧ vs.length = n * I.size)
    (h : (if n = 0 then some (.clip r off len ver sz, H) else
            if sz = I.size ∧ len + n ≤ 16777216 then
              (ldn H r ver (len * sz) off).map fun olds => (.slice (some H.length) 0 (len + n) 0 sz false, H ++ [.row (olds ++ vs) 0 0 false])
            else none) = some (v, H')) (hs : RelV σ (.clip r off len ver sz) a) :
    ∃ c w' σ', (Builtin.append_ #[t, tx] ty #[a, b]).run P w = .ok c w' ∧ σ.le σ' ∧ Sim base w0 σ' H' w' ∧ RelV σ' v c := by
  have hnl := hnews.length
  cases hs with
  | clip hf hv hc ho =>
  rename_i bb o m sp d
  split at h
  · rename_i hn
    subst hn
    cases h
    refine ⟨.slice (some ⟨bb, o, sp⟩) len len, w, σ, ?_, .refl σ, S, .clip hf hv hc ho⟩
    have hnil : news = [] := by
      have : vs.length = 0 := by rw [hvs.2]; simp
      exact List.eq_nil_of_length_eq_zero (by omega)
    subst hnil
    have hst : ∀ a : Addr, (storeCells a [] 0).run P w = .ok () w := fun _ => rfl
    rcases hS.kind with ⟨e', hk⟩ | hk <;> simp [Builtin.append_, run_underlying hu, run_underlying hk, sizeOf, typeInfo, hi, hS.len, hS'.cells, hst]
  · rename_i hn
    split at h
    case isFalse => cases h
    rename_i hcond
    obtain ⟨rfl, hnb⟩ := hcond
    have hge := grownCap_ge w (len + n) len e
    have hcsz : ∀ olds : List Value, olds.length = len * I.size → ((olds ++ news).toArray ++ Builtin.zeroCells z.cells (grownCap w (len + n) len e - (len + n))).size = grownCap w (len + n) len e * I.size := by
      intro olds hol
      have : ((olds ++ news).toArray ++ Builtin.zeroCells z.cells (grownCap w (len + n) len e - (len + n))).size = (len + n) * I.size + (grownCap w (len + n) len e - (len + n)) * I.size := by
        simp [zeroCells_size, hzs, hol, Nat.add_mul]; omega
      rw [this, ← Nat.add_mul]; congr 1; omega
    obtain ⟨ovs, h2, h3⟩ := Option.map_eq_some_iff.1 h
    cases h3
    have holds : ∃ olds : List Value, olds.length = len * I.size ∧ (len ≠ 0 → w.rangeAt bb o olds) ∧ RelVs σ ovs olds := by
      by_cases hcap : len = 0
      · subst hcap
        simp [ldn] at h2
        subst h2
        exact ⟨[], by simp, fun h => absurd rfl h, .nil⟩
      · obtain ⟨ho1, _, _⟩ := ho hcap
        obtain ⟨olds, g1, g2, g3⟩ := S.ldn h2 hf ho1 hc
        exact ⟨olds, g2, fun _ => g1, g3⟩
    obtain ⟨olds, hol, hor, horel⟩ := holds
    have hfit : Builtin.nextslicecap (len + n) len * i.bytes ≤ 281474976710656 := by
      rw [hby]
      have h1 := nextslicecap_le_wide (need := len + n) (old := len) (by omega)
      have h2 : Builtin.nextslicecap (len + n) len * I.bytes ≤ 20971712 * 4096 := Nat.mul_le_mul (by omega) hbytes
      omega
    have hrun := run_append_grow_src (P := P) w t tx ty e i z hu hi hz (some ⟨bb, o, sp⟩) len len olds (by
      by_cases hcap : len = 0
      · subst hcap
        have : olds = [] := List.eq_nil_of_length_eq_zero (by simpa using hol)
        subst this
        exact run_firstCells_some w.drew i.size 0 _ 0 0 [] (by simp) (fun j u hj => by simp at hj)
      · obtain ⟨_, _, rfl⟩ := ho hcap
        exact run_firstCells_some w.drew i.size len _ len len olds (by rw [hsz]; exact hol) (fun j u hj => by rw [add_plain]; exact hor hcap j u hj)) b n news hS' (by omega) (by push_cast; omega) hfit
    have hrel := horel.append hnews
    have halloc := S.drew.alloc (cells := ovs ++ vs) (C := ((olds ++ news).toArray ++ Builtin.zeroCells z.cells (grownCap w (len + n) len e - (len + n)))) e 0 (fun p v hp _ => by
      obtain ⟨c, h3, h4⟩ := hrel.get hp
      refine ⟨c, ?_, h4⟩
      have hlt : p < (olds ++ news).length := by
        rcases Nat.lt_or_ge p (olds ++ news).length with h5 | h5
        · exact h5
        · rw [List.getElem?_eq_none h5] at h3; cases h3
      rw [Array.getElem?_append_left (by simpa using hlt)]
      simpa using h3)
    refine ⟨_, _, _, hrun, S.drew.le_new _ _, halloc, ?_⟩
    refine .slice (b := w.heap.size) (n := ((olds ++ news).toArray ++ Builtin.zeroCells z.cells (grownCap w (len + n) len e - (len + n))).size) (d := 0) ?_ ?_ ?_ ?_ ?_ ?_ ?_
    · simp [Inj.new]
    · simp [Inj.new]
    · intro _; simp [Inj.new]
    · omega
    · intro _
      refine ⟨rfl, ?_, rfl⟩
      rw [hcsz olds hol]; omega
    · intro h; cases h
    · intro _
      simp only [Inj.new, if_true, List.length_append]
      rw [hvs.2, horel.length, hol, Nat.zero_add, ← Nat.add_mul]
      exact Nat.mul_le_mul_right _ (by omega)

theorem aAppend_sound (S : Sim base w0 σ H w) {t tx ty : TypeId} {s x v : AV} {a b : Value} {H' : AH} (h : aAppend P H t tx s x = some (v, H')) (hs : RelV σ s a) (hx : RelV σ x b) :
    ∃ c w' σ', (Builtin.append_ #[t, tx] ty #[a, b]).run P w = .ok c w' ∧ σ.le σ' ∧ Sim base w0 σ' H' w' ∧ RelV σ' v c := by
  unfold aAppend at h
  split at h
  case h_2 => cases h
  rename_i e hu
  split at h
  case h_2 => cases h
  rename_i I hI
  obtain ⟨hue, i, z, hi, hz, hsz, hby, hzs, hzero⟩ := tiOf_some hI
  split at h
  case isFalse => cases h
  rename_i hcond
  obtain ⟨hpos, hbytes⟩ := hcond
  obtain ⟨⟨n, vs⟩, hsrc, h⟩ := Option.bind_eq_some_iff.1 h
  simp only [] at h
  split at h
  case isFalse => cases h
  rename_i hvs
  simp only [Bool.and_eq_true, beq_iff_eq] at hvs
  obtain ⟨news, hS, hnews⟩ := aSrc_sound S hsrc hx hvs.1 hvs.2
  have hnl := hnews.length
  have hS' : Src P i.size tx b n news w := by rw [hsz]; exact hS
  split at h
  case h_4 => cases h
  case h_3 r off len ver sz h => exact aAppend_clip S hu hi hz hsz hby hzs hpos hbytes hS hS' hnews hvs h hs
  case h_1 off ver sz full h =>
    cases hs
    split at h
    · rename_i hn
      subst hn
      cases h
      refine ⟨.slice none 0 0, w, σ, ?_, .refl σ, S, .nilslice⟩
      have hnil : news = [] := by
        have : vs.length = 0 := by rw [hvs.2]; simp
        exact List.eq_nil_of_length_eq_zero (by omega)
      subst hnil
      rcases hS.kind with ⟨e', hk⟩ | hk <;> simp [Builtin.append_, run_underlying hu, run_underlying hk, sizeOf, typeInfo, hi, hS.len, hS'.cells]
    · rename_i hn
      split at h
      case isFalse => cases h
      rename_i hnb
      cases h
      have hfit : Builtin.nextslicecap (0 + n) 0 * i.bytes ≤ 281474976710656 := by
        rw [hby]
        have h1 := nextslicecap_le_wide (need := 0 + n) (old := 0) (by omega)
        have h2 : Builtin.nextslicecap (0 + n) 0 * I.bytes ≤ 20971712 * 4096 := Nat.mul_le_mul (by omega) hbytes
        omega
      have hrun := run_append_grow_src (P := P) w t tx ty e i z hu hi hz none 0 0 [] (run_firstCells_none _ _ _ _ _) b n news hS' (by omega) (by push_cast; omega) hfit
      simp only [Nat.zero_add] at hrun
      have hge := grownCap_ge w n 0 e
      have halloc := S.drew.alloc (cells := vs) (C := (([] ++ news).toArray ++ Builtin.zeroCells z.cells (grownCap w n 0 e - n))) e 0 (fun p v hp _ => by
        obtain ⟨c, h3, h4⟩ := hnews.get hp
        refine ⟨c, ?_, h4⟩
        have hlt : p < news.length := by
          rcases Nat.lt_or_ge p news.length with h5 | h5
          · exact h5
          · rw [List.getElem?_eq_none h5] at h3; cases h3
        rw [Array.getElem?_append_left (by simpa using hlt)]
        simpa using h3)
      refine ⟨_, _, _, hrun, S.drew.le_new _ _, halloc, ?_⟩
      refine .slice (b := w.heap.size) (n := ((([] ++ news).toArray ++ Builtin.zeroCells z.cells (grownCap w n 0 e - n))).size) (d := 0) ?_ ?_ ?_ ?_ ?_ ?_ ?_
      rotate_right
      · intro _
        simp only [Inj.new, if_true]
        rw [hvs.2, Nat.zero_add]
        exact Nat.mul_le_mul_right _ (by omega)
      · simp [Inj.new]
      · simp [Inj.new]
      · intro _; simp [Inj.new]
      · omega
      · intro _
        refine ⟨rfl, ?_, rfl⟩
        have h1 : (([] ++ news).toArray ++ Builtin.zeroCells z.cells (grownCap w n 0 e - n)).size = n * I.size + (grownCap w n 0 e - n) * I.size := by
          simp [zeroCells_size, hzs]; omega
        rw [h1, ← Nat.add_mul, Nat.zero_add]
        exact Nat.mul_le_mul_right _ (by omega)
      · intro h; cases h
  case h_2 r off len ver sz full h =>
    cases hs with
    | slice hf hv hc hlc ho hfl hfin =>
    rename_i bb o m cap sp d
    split at h
    · rename_i hn
      subst hn
      cases h
      refine ⟨.slice (some ⟨bb, o, sp⟩) len cap, w, σ, ?_, .refl σ, S, .slice hf hv hc hlc ho hfl hfin⟩
      have hnil : news = [] := by
        have : vs.length = 0 := by rw [hvs.2]; simp
        exact List.eq_nil_of_length_eq_zero (by omega)
      subst hnil
      have hst : ∀ a : Addr, (storeCells a [] 0).run P w = .ok () w := fun _ => rfl
      rcases hS.kind with ⟨e', hk⟩ | hk <;> simp [Builtin.append_, run_underlying hu, run_underlying hk, sizeOf, typeInfo, hi, hS.len, hS'.cells, hlc, hst]
    · rename_i hn
      split at h
      case isFalse => cases h
      rename_i hcond
      obtain ⟨rfl, hnb⟩ := hcond
      have hgrow : cap < len + n → ∀ (olds : List Value), olds.length = len * I.size → (cap ≠ 0 → w.rangeAt bb o olds) →
          (Builtin.append_ #[t, tx] ty #[.slice (some ⟨bb, o, sp⟩) len cap, b]).run P w = .ok (.slice (some ⟨w.heap.size, 0, none⟩) (len + n) (grownCap w (len + n) cap e))
            (w.drew.alloc (.cells ((olds ++ news).toArray ++ Builtin.zeroCells z.cells (grownCap w (len + n) cap e - (len + n))) e)) := by
        intro hlt olds hol hr
        have hfit : Builtin.nextslicecap (len + n) cap * i.bytes ≤ 281474976710656 := by
          rw [hby]
          have h1 := nextslicecap_le_wide (need := len + n) (old := cap) hlt
          have h2 : Builtin.nextslicecap (len + n) cap * I.bytes ≤ 20971712 * 4096 := Nat.mul_le_mul (by omega) hbytes
          omega
        refine run_append_grow_src (P := P) w t tx ty e i z hu hi hz _ len cap olds ?_ b n news hS' hlt (by push_cast; omega) hfit
        by_cases hcap : cap = 0
        · have hl0 : len = 0 := by omega
          subst hl0
          have : olds = [] := List.eq_nil_of_length_eq_zero (by simpa using hol)
          subst this
          exact run_firstCells_some w.drew i.size 0 _ 0 cap [] (by simp) (fun j u hj => by simp at hj)
        · obtain ⟨_, _, rfl⟩ := ho hcap
          exact run_firstCells_some w.drew i.size len _ len cap olds (by rw [hsz]; exact hol) (fun j u hj => by rw [add_plain]; exact hr hcap j u hj)
      have hge := grownCap_ge w (len + n) cap e
      have hcsz : ∀ olds : List Value, olds.length = len * I.size → ((olds ++ news).toArray ++ Builtin.zeroCells z.cells (grownCap w (len + n) cap e - (len + n))).size = grownCap w (len + n) cap e * I.size := by
        intro olds hol
        have : ((olds ++ news).toArray ++ Builtin.zeroCells z.cells (grownCap w (len + n) cap e - (len + n))).size = (len + n) * I.size + (grownCap w (len + n) cap e - (len + n)) * I.size := by
          simp [zeroCells_size, hzs, hol, Nat.add_mul]; omega
        rw [this, ← Nat.add_mul]; congr 1; omega
      split at h
      · rename_i hfull
        have hcl := hfl hfull
        obtain ⟨ovs, h2, h3⟩ := Option.map_eq_some_iff.1 h
        cases h3
        have holds : ∃ olds : List Value, olds.length = len * I.size ∧ (cap ≠ 0 → w.rangeAt bb o olds) ∧ RelVs σ ovs olds := by
          by_cases hcap : cap = 0
          · have hl0 : len = 0 := by omega
            subst hl0
            simp [ldn] at h2
            subst h2
            exact ⟨[], by simp, fun h => absurd hcap h, .nil⟩
          · obtain ⟨ho1, _, _⟩ := ho hcap
            obtain ⟨olds, g1, g2, g3⟩ := S.ldn h2 hf ho1 hc
            exact ⟨olds, g2, fun _ => g1, g3⟩
        obtain ⟨olds, hol, hor, horel⟩ := holds
        have hrun := hgrow (by omega) olds hol hor
        have hrel := horel.append hnews
        have halloc := S.drew.alloc (cells := ovs ++ vs) (C := ((olds ++ news).toArray ++ Builtin.zeroCells z.cells (grownCap w (len + n) cap e - (len + n)))) e 0 (fun p v hp _ => by
          obtain ⟨c, h3, h4⟩ := hrel.get hp
          refine ⟨c, ?_, h4⟩
          have hlt : p < (olds ++ news).length := by
            rcases Nat.lt_or_ge p (olds ++ news).length with h5 | h5
            · exact h5
            · rw [List.getElem?_eq_none h5] at h3; cases h3
          rw [Array.getElem?_append_left (by simpa using hlt)]
          simpa using h3)
        refine ⟨_, _, _, hrun, S.drew.le_new _ _, halloc, ?_⟩
        refine .slice (b := w.heap.size) (n := ((olds ++ news).toArray ++ Builtin.zeroCells z.cells (grownCap w (len + n) cap e - (len + n))).size) (d := 0) ?_ ?_ ?_ ?_ ?_ ?_ ?_
        rotate_right
        · intro _
          simp only [Inj.new, if_true, List.length_append]
          rw [hvs.2, horel.length, hol, Nat.zero_add, ← Nat.add_mul]
          exact Nat.mul_le_mul_right _ (by omega)
        · simp [Inj.new]
        · simp [Inj.new]
        · intro _; simp [Inj.new]
        · omega
        · intro _
          refine ⟨rfl, ?_, rfl⟩
          rw [hcsz olds hol]; omega
        · intro h; cases h
      · split at h
        · rename_i H1 hin
          cases h
          unfold inPlace at hin
          split at hin
          case h_2 => cases hin
          rename_i cells v0 s0 hr
          split at hin
          case isFalse => cases hin
          rename_i hcnd
          obtain ⟨hv0, hle⟩ := hcnd
          have R := S.rows _ _ _ _ _ hr
          have hfq := hfin (by rw [R.ver]; exact hv0.symm)
          rw [R.fin] at hfq
          simp only [Bool.false_eq_true, if_false] at hfq
          have hroom : len + n ≤ cap := by
            have : (len + n) * I.size ≤ cap * I.size := by omega
            exact Nat.le_of_mul_le_mul_right this hpos
          have hcap : cap ≠ 0 := by omega
          obtain ⟨ho1, ho2, rfl⟩ := ho hcap
          obtain ⟨g1, g2, g3⟩ := S.stn (b := bb) (o := o + len * I.size) hin hnews hf (by push_cast; omega) hc
          have hrun := run_append_room_src (P := P) w t tx ty e i hu hi bb o len cap b n news hS' hroom (fun j hj => by rw [hsz]; exact (g1 j hj).1) (fun j hj => by rw [hsz]; exact (g1 j hj).2)
          rw [hsz] at hrun
          exact ⟨_, _, σ, hrun, .refl σ, g3, .slice hf hv hc hroom (fun _ => ⟨ho1, ho2, rfl⟩) (fun h => by cases h) hfin⟩
        obtain ⟨⟨H1, v'⟩, h2, h3⟩ := Option.map_eq_some_iff.1 h
        cases h3
        by_cases hroom : len + n ≤ cap
        · have hcap : cap ≠ 0 := by omega
          obtain ⟨ho1, ho2, rfl⟩ := ho hcap
          have hmul : (len + n) * I.size ≤ cap * I.size := Nat.mul_le_mul_right _ hroom
          rw [Nat.add_mul] at hmul
          obtain ⟨g1, g2, g3⟩ := S.grow_in h2 hf ho1 hc hnews (by omega)
          have hrun := run_append_room_src (P := P) w t tx ty e i hu hi bb o len cap b n news hS' hroom (fun j hj => by rw [hsz]; exact (g1 j hj).1) (fun j hj => by rw [hsz]; exact (g1 j hj).2)
          rw [hsz] at hrun
          refine ⟨_, _, _, hrun, g2, g3, ?_⟩
          refine .slice (b := bb) (n := m) (d := d) ?_ ?_ ?_ hroom (fun _ => ⟨ho1, ho2, rfl⟩) (fun h => by cases h) (fun _ => by
            simp only [Inj.new, if_true]
            rw [hvs.2]
            rw [← Nat.add_mul] at hmul ⊢
            omega)
          · simp [Inj.new]
          · simp [Inj.new]
          · intro _; simp [Inj.new]
        · obtain ⟨olds, g1, g2, g3⟩ := S.grow_out h2 hf (o := o) (fun hne => by
            have hcap : cap ≠ 0 := by
              intro h0
              have : len = 0 := by omega
              subst this
              simp at hne
            obtain ⟨ho1, ho2, _⟩ := ho hcap
            have : len * I.size ≤ cap * I.size := Nat.mul_le_mul_right _ hlc
            exact ⟨ho1, by omega⟩) hc hnews
          have hrun := hgrow (by omega) olds g1 (fun _ => g2)
          obtain ⟨g4, g5⟩ := g3 (Builtin.zeroCells z.cells (grownCap w (len + n) cap e - (len + n))).toList e ((olds ++ news).toArray ++ Builtin.zeroCells z.cells (grownCap w (len + n) cap e - (len + n))) (by simp)
          refine ⟨_, _, _, hrun, g4, g5, ?_⟩
          refine .slice (b := w.heap.size) (n := ((olds ++ news).toArray ++ Builtin.zeroCells z.cells (grownCap w (len + n) cap e - (len + n))).size) (d := -(off : Int)) ?_ ?_ ?_ ?_ ?_ ?_ ?_
          rotate_right
          · intro _
            simp only [Inj.new, if_true]
            rw [hvs.2, ← Nat.add_mul]
            have := Nat.mul_le_mul_right I.size hge
            omega
          · simp [Inj.new]
          · simp [Inj.new]
          · intro _; simp [Inj.new]
          · omega
          · intro _
            refine ⟨by omega, ?_, rfl⟩
            rw [hcsz olds g1]; omega
          · intro h; cases h

theorem fold_length (off : Nat) : ∀ (l : List (AV × Nat)) (cells : List AV), (l.foldl (fun cs (x : AV × Nat) => cs.set (off + x.2) x.1) cells).length = cells.length
  | [], _ => rfl
  | x :: l, cells => by rw [List.foldl_cons, fold_length off l]; simp
theorem aFill_length {place : Nat → Option (Nat × Nat)} : ∀ {parts : List (Nat × AV)} {cells cells' : List AV}, aFill place cells parts = some cells' → cells'.length = cells.length
  | [], _, _, h => by simp [aFill] at h; subst h; rfl
  | (i, v) :: l, cells, cells', h => by
    simp only [aFill] at h
    split at h
    · cases h
    · split at h
      · cases h
      · rw [aFill_length h, fold_length]

theorem zeroList_rel {k : Nat} (z : Value) (n : Nat) (h : z.cells.size = k) (hk : n = 0 ∨ 0 < k) :
    RelVs σ ((List.range n).map fun i => ((z.cells.toList.map (absV 2))[i % (z.cells.toList.map (absV 2)).length]?).getD .undef) ((Array.range n).map (z.cells[· % z.cells.size]!)).toList := by
  rw [Array.toList_map, Array.toList_range]
  have : ∀ l : List Nat, (∀ i ∈ l, 0 < z.cells.size) → RelVs σ (l.map fun i => ((z.cells.toList.map (absV 2))[i % (z.cells.toList.map (absV 2)).length]?).getD .undef) (l.map fun i => z.cells[i % z.cells.size]!) := by
    intro l
    induction l with
    | nil => intro _; exact .nil
    | cons i l ih =>
      intro hl
      have hpos := hl i (by simp)
      refine .cons ?_ (ih fun j hj => hl j (by simp [hj]))
      have hlt : i % z.cells.size < z.cells.size := Nat.mod_lt _ hpos
      simp [hlt, relV_absV]
  refine this _ (fun i hi => ?_)
  rcases hk with h1 | h1
  · subst h1; simp at hi
  · omega

theorem slParts_some {v : AV} {c : Value} {r off len ver sz : Nat} (h : slParts v = some (r, off, len, ver, sz)) (hr : RelV σ v c) : ∃ b o sp cap n d, c = .slice (some ⟨b, o, sp⟩) len cap ∧ σ.fam b = some (r, d, n) ∧ (ver = σ.ver r → b = σ.canon r) ∧
    (len ≠ 0 → (o : Int) = d + off ∧ o + len * sz ≤ n ∧ sp = none) := by
  unfold slParts at h
  split at h
  case h_3 => cases h
  case h_1 =>
    cases h
    cases hr with
    | slice hf hv hc hl ho hfl hfin =>
      rename_i b o n cap sp d
      refine ⟨b, o, sp, cap, n, d, rfl, hf, hc, fun hne => ?_⟩
      obtain ⟨g1, g2, g3⟩ := ho (by omega)
      have : len * sz ≤ cap * sz := Nat.mul_le_mul_right _ hl
      exact ⟨g1, by omega, g3⟩
  case h_2 =>
    cases h
    cases hr with
    | clip hf hv hc ho =>
      rename_i b o n sp d
      exact ⟨b, o, sp, _, n, d, rfl, hf, hc, ho⟩
theorem isNilSl_some {v : AV} {c : Value} (h : isNilSl v = true) (hr : RelV σ v c) : c = .slice none 0 0 := by
  unfold isNilSl at h
  split at h
  · cases hr; rfl
  · cases h

theorem aCopy_sound (S : Sim base w0 σ H w) {t : TypeId} {d s v : AV} {a b : Value} {H' : AH} {ts : Array TypeId} {ty : TypeId} {as : Array Value} (h : aCopy P H t d s = some (v, H')) (hd : RelV σ d a) (hs : RelV σ s b) (ht : ts[0]? = some t) (ha : as[0]? = some a) (hb : as[1]? = some b) :
    ∃ c w', (Builtin.copy_ ts ty as).run P w = .ok c w' ∧ Sim base w0 σ H' w' ∧ RelV σ v c := by
  unfold aCopy at h
  split at h
  case h_2 => cases h
  rename_i e hu
  split at h
  case h_2 => cases h
  rename_i ie hie
  have hst : ∀ a : Addr, (storeCells a [] 0).run P w = .ok () w := fun _ => rfl
  split at h
  · rename_i hc
    simp only [Bool.and_eq_true, Bool.or_eq_true] at hc
    cases h
    have ea := isNilSl_some hc.1 hd
    subst ea
    refine ⟨goInt 0, w, ?_, S, .int _ _⟩
    rcases hc.2 with h1 | h1
    · have eb := isNilSl_some h1 hs
      subst eb
      simp [Builtin.copy_, ht, ha, hb, run_underlying hu, Builtin.lenOf, Builtin.firstCells, sizeOf, typeInfo, hie]
    · obtain ⟨⟨r, off, len, ver, sz⟩, h2⟩ := Option.isSome_iff_exists.1 h1
      obtain ⟨bb, o, sp, cap, n, dd, rfl, hf, hcn, ho⟩ := slParts_some h2 hs
      have := run_firstCells_some (P := P) w ie.size 0 ⟨bb, o, sp⟩ len cap [] (by simp) (fun j u hj => by simp at hj)
      simp [Builtin.copy_, ht, ha, hb, run_underlying hu, Builtin.lenOf, sizeOf, typeInfo, hie, this]
  · split at h
    · rename_i hc
      simp only [Bool.and_eq_true] at hc
      cases h
      have eb := isNilSl_some hc.1 hs
      subst eb
      obtain ⟨⟨r, off, len, ver, sz⟩, h2⟩ := Option.isSome_iff_exists.1 hc.2
      obtain ⟨bb, o, sp, cap, n, dd, rfl, hf, hcn, ho⟩ := slParts_some h2 hd
      refine ⟨goInt 0, w, ?_, S, .int _ _⟩
      simp [Builtin.copy_, ht, ha, hb, run_underlying hu, Builtin.lenOf, Builtin.firstCells, sizeOf, typeInfo, hie, hst]
    · split at h
      case h_2 => cases h
      rename_i r off len ver sz r2 off2 len2 ver2 sz2 hpd hps
      obtain ⟨bb, o, sp, cap, n, dd, rfl, hf, hcn, ho⟩ := slParts_some hpd hd
      obtain ⟨bb2, o2, sp2, cap2, n2, dd2, rfl, hf2, hcn2, ho2⟩ := slParts_some hps hs
      split at h
      · rename_i h0
        cases h
        refine ⟨goInt 0, w, ?_, S, .int _ _⟩
        have h0' : Nat.min len2 len = 0 := h0
        have := run_firstCells_some (P := P) w ie.size 0 ⟨bb2, o2, sp2⟩ len2 cap2 [] (by simp) (fun j u hj => by simp at hj)
        simp [Builtin.copy_, ht, ha, hb, run_underlying hu, Builtin.lenOf, sizeOf, typeInfo, hie, this, h0', hst]
      · rename_i h0
        split at h
        case isFalse => cases h
        rename_i hc
        obtain ⟨rfl, e2⟩ := hc
        subst e2
        obtain ⟨vs, h1, h2⟩ := Option.bind_eq_some_iff.1 h
        split at h2
        case isFalse => cases h2
        rename_i hone
        obtain ⟨H1, h3, h4⟩ := Option.map_eq_some_iff.1 h2
        cases h4
        obtain ⟨p1, p2, rfl⟩ := ho (by omega)
        obtain ⟨q1, q2, rfl⟩ := ho2 (by omega)
        obtain ⟨cs, g1, g2, g3⟩ := S.ldn h1 hf2 q1 hcn2
        obtain ⟨k1, k2, k3⟩ := S.stn h3 g3 hf p1 hcn
        have hld := run_firstCells_some (P := P) w ie.size (Nat.min len2 len) ⟨bb2, o2, none⟩ len2 cap2 cs g2 (fun j u hj => by rw [add_plain]; exact g1 j u hj)
        have hstc := run_storeCells_cells (P := P) bb o cs 0 w (fun j hj => (k1 j hj).1) (fun j hj => (k1 j hj).2) k2
        simp only [Nat.add_zero] at hstc
        refine ⟨goInt (Nat.min len2 len : Nat), w.setCells bb o cs, ?_, k3, .int _ _⟩
        simp [Builtin.copy_, ht, ha, hb, run_underlying hu, Builtin.lenOf, sizeOf, typeInfo, hie, hld, hstc]

theorem aClear_sound (S : Sim base w0 σ H w) {t : TypeId} {x : AV} {a : Value} {H' : AH} {ts : Array TypeId} {ty : TypeId} {as : Array Value} (h : aClear P H t x = some H') (hx : RelV σ x a) (ht : ts[0]? = some t) (ha : as[0]? = some a) :
    ∃ w', (Builtin.clear_ ts ty as).run P w = .ok (.tuple #[]) w' ∧ Sim base w0 σ H' w' := by
  unfold aClear at h
  split at h
  case h_2 => cases h
  rename_i e hu
  split at h
  case h_2 => cases h
  rename_i I hI
  obtain ⟨hue, i, z, hi, hz, hsz, hby, hzs, hzero⟩ := tiOf_some hI
  split at h
  · rename_i hn
    cases h
    have ea := isNilSl_some hn hx
    subst ea
    exact ⟨w, by simp [Builtin.clear_, ht, ha, run_underlying hu], S⟩
  · split at h
    case h_2 => cases h
    rename_i r off len ver sz hp
    obtain ⟨b, o, sp, cap, n, d, rfl, hf, hc, ho⟩ := slParts_some hp hx
    split at h
    · rename_i h0
      subst h0
      cases h
      exact ⟨w, by simp [Builtin.clear_, ht, ha, run_underlying hu], S⟩
    · rename_i h0
      split at h
      case isFalse => cases h
      rename_i hcd
      obtain ⟨rfl, hpos⟩ := hcd
      obtain ⟨ho1, ho2, rfl⟩ := ho h0
      rw [hzero] at h
      have hrel := zeroList_rel (σ := σ) z (len * I.size) hzs (.inr hpos)
      obtain ⟨k1, k2, k3⟩ := S.stn h hrel hf ho1 hc
      have hstc := run_storeCells_cells (P := P) b o _ 0 w (fun j hj => (k1 j hj).1) (fun j hj => (k1 j hj).2) k2
      simp only [Nat.add_zero, Array.toList_map, Array.toList_range] at hstc
      refine ⟨_, ?_, k3⟩
      have hzc : Builtin.zeroCells z.cells len = (Array.range (len * I.size)).map (z.cells[· % z.cells.size]!) := by simp [Builtin.zeroCells, hzs]
      cases len with
      | zero => exact absurd rfl h0
      | succ len => simp [Builtin.clear_, ht, ha, run_underlying hu, zeroValue, typeInfo, hi, hz, hzc, hstc]

theorem run_append_zeros (w : World) (t tx ty e : TypeId) (i : TypeInfo) (z : Value) (k : IntKind) (n : Nat) (hu : P.underlying t = some (.slice e)) (hx : P.underlying tx = some (.int k)) (hi : P.info? e = some i) (hz : i.zero = some z)
    (h0 : 0 < n) (hs : 0 < i.size) (h1 : n ≤ 16777216) (hb : i.bytes ≤ 4096) :
    (Builtin.append_ #[t, tx] ty #[.slice none 0 0, .int .i64 n]).run P w =
      .ok (.slice (some ⟨w.heap.size, 0, none⟩) n (grownCap w n 0 e)) (w.drew.alloc (.cells (Builtin.zeroCells z.cells n ++ Builtin.zeroCells z.cells (grownCap w n 0 e - n)) e)) := by
  have hw : IntKind.i64.wrap (n : Int) = n := by
    have e1 : (2 : Int) ^ 64 = 18446744073709551616 := by decide
    have e2 : (2 : Int) ^ (64 - 1) = 9223372036854775808 := by decide
    unfold IntKind.wrap
    simp only [IntKind.bits, IntKind.signed, Bool.true_and, e1, e2, decide_eq_true_eq]
    split <;> omega
  have hbb : n * i.bytes ≤ 16777216 * 4096 := Nat.mul_le_mul h1 hb
  have hne : ¬ (n * i.size = 0) := by
    have := Nat.mul_pos h0 hs; omega
  have hcap : Builtin.nextslicecap n 0 = n := by unfold Builtin.nextslicecap; rw [if_pos (by omega)]
  have hn : ¬ n = 0 := by omega
  have hfit : ¬ (281474976710656 < n * i.bytes) := by omega
  have hfit2 : ¬ ((281474976710656 : Int) < (n : Int) * (i.bytes : Int)) := by
    have : (n : Int) * (i.bytes : Int) = ((n * i.bytes : Nat) : Int) := by simp
    omega
  have hneg : ¬ ((n : Int) < 0) := by omega
  have h63 : ¬ ((9223372036854775807 : Int) < (n : Int)) := by omega
  have hai : ∀ w' : World, (asIntOf (Value.int .i64 (n : Int))).run P w' = .ok (.i64, (n : Int)) w' := fun _ => rfl
  simp [Builtin.append_, hai, run_underlying hu, run_underlying hx, sizeOf, typeInfo, zeroValue, hi, hz, asInt, hw, hneg, hfit2, hn, h63, hcap, hfit, Question.forced, newRow, grownCap, Builtin.firstCells]
  exact fun h => absurd h hne
theorem aAppMake_sound (S : Sim base w0 σ H w) {t tx ty : TypeId} {s x v : AV} {a b : Value} {H' : AH} (h : aAppMake P H t tx s x = some (v, H')) (hs : RelV σ s a) (hx : RelV σ x b) :
    ∃ c w' σ', (Builtin.append_ #[t, tx] ty #[a, b]).run P w = .ok c w' ∧ σ.le σ' ∧ Sim base w0 σ' H' w' ∧ RelV σ' v c := by
  unfold aAppMake at h
  split at h
  case h_2 => cases h
  rename_i e kk off ln ver sz full n hu hux
  split at h
  case h_2 => cases h
  rename_i I hI
  obtain ⟨hue, i, z, hi, hz, hsz, hby, hzs, hzero⟩ := tiOf_some hI
  split at h
  case isFalse => cases h
  rename_i hcond
  obtain ⟨q0, q1, q2, q3⟩ := hcond
  cases h
  cases hs
  cases hx
  obtain ⟨m, rfl⟩ : ∃ m : Nat, n = m := ⟨n.toNat, by omega⟩
  simp only [Int.toNat_natCast] at *
  have hrun := run_append_zeros (P := P) w t tx ty e i z kk m hu hux hi hz (by omega) (by omega) (by omega) (by omega)
  have hge := grownCap_ge w m 0 e
  have hrel := zeroList_rel (σ := σ) z (m * I.size) hzs (.inr q3)
  have hzc : Builtin.zeroCells z.cells m = (Array.range (m * I.size)).map (z.cells[· % z.cells.size]!) := by simp [Builtin.zeroCells, hzs]
  have hcsz : (Builtin.zeroCells z.cells m ++ Builtin.zeroCells z.cells (grownCap w m 0 e - m)).size = grownCap w m 0 e * I.size := by
    rw [Array.size_append, zeroCells_size, zeroCells_size, hzs, ← Nat.add_mul]; congr 1; omega
  have halloc := S.drew.alloc (cells := (List.range (m * I.size)).map fun i => (I.zero[i % I.zero.length]?).getD .undef) (C := Builtin.zeroCells z.cells m ++ Builtin.zeroCells z.cells (grownCap w m 0 e - m)) e 0 (fun p v hp _ => by
    rw [hzero] at hp
    obtain ⟨c, g3, g4⟩ := hrel.get hp
    refine ⟨c, ?_, g4⟩
    rw [← hzc] at g3
    have hlt : p < (Builtin.zeroCells z.cells m).size := by
      rcases Nat.lt_or_ge p (Builtin.zeroCells z.cells m).size with h5 | h5
      · exact h5
      · rw [List.getElem?_eq_none (by simpa using h5)] at g3; cases g3
    rw [Array.getElem?_append_left hlt, ← Array.getElem?_toList]
    exact g3)
  refine ⟨_, _, _, hrun, S.drew.le_new _ _, halloc, ?_⟩
  refine .slice (b := w.heap.size) (n := (Builtin.zeroCells z.cells m ++ Builtin.zeroCells z.cells (grownCap w m 0 e - m)).size) (d := 0) (by simp [Inj.new]) (by simp [Inj.new]) (fun _ => by simp [Inj.new]) (by omega) (fun _ => ⟨rfl, by rw [hcsz]; omega, rfl⟩) (fun h => by cases h) (fun _ => by
    simp only [Inj.new, if_true, List.length_map, List.length_range, Nat.zero_add]
    exact Nat.mul_le_mul_right _ (by omega))

theorem aWrite_sound {ρ : Operand → AV} {ρc : Operand → Value} (hρ : ∀ x, RelV σ (ρ x) (ρc x)) (S : Sim base w0 σ H w) {o : Oper} {v : Option AV} {H' : AH} (h : aWrite P ρ H o.op = some (v, H')) :
    ∃ n w' σ', (execOp ρc o).run P w = .ok n w' ∧ σ.le σ' ∧ Sim base w0 σ' H' w' ∧ NextOk σ' v n := by
  unfold aWrite at h
  unfold execOp
  split at h <;> first | (cases h; done) | skip
  all_goals (rename_i heq; rw [heq]; simp only [])
  case h_1 t x y =>
    have hx := hρ x
    have hy := hρ y
    split at h
    case h_2 => cases h
    rename_i i r off ver hi hv
    rw [hv] at hx
    split at h
    · cases h
    rename_i hc
    simp only [Bool.or_eq_true, bne_iff_ne, ne_eq, not_or, Bool.not_eq_true, Decidable.not_not] at hc
    obtain ⟨H1, h1, h2⟩ := Option.map_eq_some_iff.1 h
    cases h2
    have hcs := hy.cells hc.1
    have hlen := hcs.length
    generalize ρc x = c at hx ⊢
    generalize ρc y = d at hy hcs hlen ⊢
    cases hx with
    | ptr hf ho hver hcn =>
      rename_i b oo n dd
      obtain ⟨g1, g2, g3⟩ := S.stn h1 hcs hf ho hcn
      have hst := run_storeCells_cells (P := P) b oo d.cells.toList 0 w (fun j hj => (g1 j hj).1) (fun j hj => (g1 j hj).2) g2
      have hsz : d.cells.size = i.size := by rw [← hc.2, hlen]; simp
      refine ⟨.skip, _, σ, ?_, .refl σ, g3, trivial⟩
      simp only [Nat.add_zero] at hst
      simp [Instr.storeAt, Instr.sureAddr, storeVar, sizeOf, typeInfo, hi, hsz, hst]
  case h_2 t =>
    obtain ⟨I, hI, h1⟩ := Option.map_eq_some_iff.1 h
    cases h1
    obtain ⟨_, i, z, hi, hz, hsz, _, hzs, hzero⟩ := tiOf_some hI
    refine ⟨.value (.pointer (some ⟨w.heap.size, 0, none⟩)), w.alloc (.cells z.cells t), _, ?_, S.le_new _ _, S.alloc t 0 (fun p v hp _ => ?_), ?_⟩
    · simp [Instr.alloc, zeroValue, typeInfo, hi, hz, newVar, newRow]
    · rw [hzero] at hp
      obtain ⟨c, g1, g2⟩ := (RelVs.of_map (σ := σ) (f := absV 2) (l := z.cells.toList) fun v _ => relV_absV σ 2 v).get hp
      exact ⟨c, by simpa using g1, g2⟩
    · exact .ptr (d := 0) (n := z.cells.size) (by simp [Inj.new]) (by omega) (by simp [Inj.new]) (fun _ => by simp [Inj.new])
  case h_3 t x =>
    split at h
    · cases h
    rename_i hu
    cases h
    have hcs := (hρ x).cells (by simpa using hu)
    refine ⟨.value (.pointer (some ⟨w.heap.size, 0, none⟩)), w.alloc (.cells (ρc x).cells t), _, ?_, S.le_new _ _, S.alloc t 0 (fun p v hp _ => ?_), ?_⟩
    · simp [Instr.box, newVar, newRow]
    · obtain ⟨c, g1, g2⟩ := hcs.get hp
      exact ⟨c, by simpa using g1, g2⟩
    · exact .ptr (d := 0) (n := (ρc x).cells.size) (by simp [Inj.new]) (by omega) (by simp [Inj.new]) (fun _ => by simp [Inj.new])
  case h_4 t len parts =>
    split at h
    case h_2 => cases h
    rename_i e hu
    split at h
    case h_2 => cases h
    rename_i I hI
    obtain ⟨_, i, z, hi, hz, hsz, _, hzs, hzero⟩ := tiOf_some hI
    split at h
    case isFalse => cases h
    rename_i hc
    obtain ⟨cells, h1, h2⟩ := Option.map_eq_some_iff.1 h
    cases h2
    rw [hzero] at h1
    obtain ⟨C, g1, g2⟩ := aFill_sound h1 (RelPs.of_map hρ parts.toList) (zeroList_rel (σ := σ) z (len * I.size) hzs (by
      rcases hc.2 with h3 | h3
      · left; simp [h3]
      · right; exact h3))
    have hrun : (Instr.buildSlice t len (parts.map fun x => (x.1, ρc x.2))).run P w = .ok (.slice (some ⟨w.heap.size, 0, none⟩) len len) (w.alloc (.cells C e)) := by
      by_cases hl0 : len * i.size = 0
      · have hl0' : len * I.size = 0 := by rw [← hsz]; exact hl0
        rw [hl0'] at g1
        simp only [hsz] at hl0
        have g1' : Instr.fill (fun i => some (i * I.size, I.size)) #[] (parts.map fun x => (x.1, ρc x.2)).toList = some C := by
          rw [Array.toList_map]; simpa [show Array.range 0 = #[] from rfl] using g1
        have hl2 : len * i.size = 0 := by rw [hsz]; exact hl0'
        simp only [Instr.buildSlice, Sem.run_bind, run_underlying hu, sizeOf, typeInfo, run_program, hi, Sem.run_pure, Result.andThen_ok, hl2, if_true]
        simp only [hsz, show Array.range 0 = #[] from rfl, Array.map_empty, g1']
        rfl
      · refine run_buildSlice w t e len _ C i z hu hi hz (by rw [hsz]; omega) hl0 ?_
        rw [Array.toList_map, hsz]; exact g1
    have hcl := g2.length
    refine ⟨_, _, _, run_v hrun, S.le_new _ _, S.alloc e cells.length (fun p v hp _ => ?_), ?_⟩
    · obtain ⟨c, g3, g4⟩ := g2.get hp
      exact ⟨c, by simpa using g3, g4⟩
    · have hsize : C.size = len * I.size := by
        have := aFill_length h1
        simp at this hcl
        omega
      refine .slice (b := w.heap.size) (n := C.size) (d := 0) (by simp [Inj.new]) (by simp [Inj.new]) (fun _ => by simp [Inj.new]) (Nat.le_refl _) (fun _ => ⟨rfl, by rw [hsize]; omega, rfl⟩) (fun h => by cases h) (fun _ => by
        simp only [Inj.new, if_true]; simp at hcl; omega)
  case h_5 t l c =>
    split at h
    case h_2 => cases h
    rename_i e l' c' hu hl hc
    split at h
    case h_2 => cases h
    rename_i I hI
    obtain ⟨_, i, z, hi, hz, hsz, hby, hzs, hzero⟩ := tiOf_some hI
    split at h
    case isFalse => cases h
    rename_i hcond
    obtain ⟨q0, q1, q2, q3, q4⟩ := hcond
    cases h
    have hl' := hρ l
    have hc' := hρ c
    rw [hl] at hl'
    rw [hc] at hc'
    generalize ρc l = lv at hl' ⊢
    generalize ρc c = cv at hc' ⊢
    cases hl'
    cases hc'
    have hbytes : (i.bytes : Int) * c' ≤ 281474976710656 := by
      have h1 : (i.bytes : Int) * c' ≤ 4096 * 16777216 := by
        refine Int.mul_le_mul (by omega) q2 (by omega) (by omega)
      omega
    have hrun := run_make w t e i z hu hi hz .i64 .i64 l' c' q0 q1 hbytes (by omega)
    have hmade : madeCells z.cells (c'.toNat * i.size) = (Array.range (c'.toNat * i.size)).map (z.cells[· % z.cells.size]!) := rfl
    have hrel := zeroList_rel (σ := σ) z (c'.toNat * I.size) hzs (.inr q4)
    refine ⟨_, _, _, run_v hrun, S.le_new _ _, S.alloc e 0 (fun p v hp _ => ?_), ?_⟩
    · rw [hmade, hsz]
      rw [List.getElem?_map] at hp
      obtain ⟨q, hq, hqv⟩ := Option.map_eq_some_iff.1 hp
      have hqp : q = p ∧ p < l'.toNat * I.size := by
        rcases Nat.lt_or_ge p (l'.toNat * I.size) with h5 | h5
        · rw [List.getElem?_range h5] at hq
          cases hq
          exact ⟨rfl, h5⟩
        · rw [List.getElem?_eq_none (by simpa using h5)] at hq; cases hq
      obtain ⟨rfl, hlt⟩ := hqp
      have hle : l'.toNat * I.size ≤ c'.toNat * I.size := Nat.mul_le_mul_right _ (by omega)
      obtain ⟨c, g3, g4⟩ := hrel.get (q := q) (x := v) (by rw [List.getElem?_map, List.getElem?_range (by omega), ← hqv, hzero]; rfl)
      exact ⟨c, by rw [← g3, Array.getElem?_toList], g4⟩
    · refine .slice (b := w.heap.size) (n := (madeCells z.cells (c'.toNat * i.size)).size) (d := 0) (by simp [Inj.new]) (by simp [Inj.new]) (fun _ => by simp [Inj.new]) (by omega) (fun _ => ⟨rfl, by rw [size_madeCells, hsz]; omega, rfl⟩) (fun h => by cases h) (fun _ => by
        simp only [Inj.new, if_true, List.length_map, List.length_range, Nat.zero_add]
        exact Nat.mul_le_mul_right _ (by omega))
  case h_6 args ts =>
    split at h
    case h_2 => cases h
    rename_i t tx s x ht htx hs hx
    split at h
    case isFalse => cases h
    rename_i hsz
    obtain ⟨⟨v1, H1⟩, h1, h2⟩ := Option.map_eq_some_iff.1 h
    cases h2
    have e1 : ts = #[t, tx] := by
      apply Array.ext'
      have hl : ts.toList.length = 2 := by simpa using hsz.1
      have a0 : ts.toList[0]? = some t := by simpa using ht
      have a1 : ts.toList[1]? = some tx := by simpa using htx
      match hts : ts.toList, hl with
      | [p, q], _ => rw [hts] at a0 a1; simp at a0 a1; simp [a0, a1]
    have e2 : args = #[s, x] := by
      apply Array.ext'
      have hl : args.toList.length = 2 := by simpa using hsz.2
      have a0 : args.toList[0]? = some s := by simpa using hs
      have a1 : args.toList[1]? = some x := by simpa using hx
      match hts : args.toList, hl with
      | [p, q], _ => rw [hts] at a0 a1; simp at a0 a1; simp [a0, a1]
    subst e1
    subst e2
    have h1 : aAppend P H t tx (ρ s) (ρ x) = some (v1, H') ∨ aAppMake P H t tx (ρ s) (ρ x) = some (v1, H') := by
      cases ha : aAppend P H t tx (ρ s) (ρ x) with
      | some r => rw [ha] at h1; exact .inl h1
      | none => rw [ha] at h1; exact .inr h1
    obtain ⟨c, w', σ', g1, g2, g3, g4⟩ : ∃ c w' σ', (Builtin.append_ #[t, tx] o.type #[ρc s, ρc x]).run P w = .ok c w' ∧ σ.le σ' ∧ Sim base w0 σ' H' w' ∧ RelV σ' v1 c := by
      rcases h1 with h1 | h1
      · exact aAppend_sound (ty := o.type) S h1 (hρ s) (hρ x)
      · exact aAppMake_sound (ty := o.type) S h1 (hρ s) (hρ x)
    exact ⟨.value c, w', σ', by simp [resolve, invoke, builtin, g1], g2, g3, g4⟩
  case h_7 args ts =>
    split at h
    case h_2 => cases h
    rename_i t d s ht hd hs
    obtain ⟨⟨v1, H1⟩, h1, h2⟩ := Option.map_eq_some_iff.1 h
    cases h2
    obtain ⟨c, w', g1, g2, g3⟩ := aCopy_sound (ts := ts) (ty := o.type) (as := args.map ρc) S h1 (hρ d) (hρ s) ht (by simp [hd]) (by simp [hs])
    exact ⟨.value c, w', σ, by simp [resolve, invoke, builtin, g1], .refl σ, g2, g3⟩
  case h_8 args ts =>
    split at h
    case h_2 => cases h
    rename_i t x ht hx
    obtain ⟨H1, h1, h2⟩ := Option.map_eq_some_iff.1 h
    cases h2
    obtain ⟨w', g1, g2⟩ := aClear_sound (ts := ts) (ty := o.type) (as := args.map ρc) S h1 (hρ x) ht (by simp [hx])
    exact ⟨.value (.tuple #[]), w', σ, by simp [resolve, invoke, builtin, g1], .refl σ, g2, .tuple .nil⟩
end
end Go.Proofs.Ytbimapbcpmeooaa.AX
