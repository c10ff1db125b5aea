/- A plain reading of runs: values, rows of cells, and how they stand to the model's own. -/
import Derived.Orders
import Derived.Below
import Derived.RangeFuncNested
import Derived.RangeFuncLeaves
namespace Go.Proofs.Ytjfmiohgkcjdnaa.AX
open Go Go.RowKit

/-- A value in which addresses are numbers of rows. 'undef': nothing is known of it. -/
inductive AV where
  | undef
  | bool (b : Bool)
  | int (k : IntKind) (n : Int)
  | str (s : List UInt8)
  | nilptr
  | ptr (r off ver : Nat)
  | slice (r : Option Nat) (off len ver sz : Nat) (full : Bool)
  | nilmap
  | map (r : Nat)
  | nilfunc
  | func (fn : Fn) (first captured : List AV)
  | niliface
  | iface (t : TypeId) (v : AV)
  | agg (cs : List AV)
  | tuple (vs : List AV)
  | gptr (g off : Nat)
  | clip (r off len ver sz : Nat)
  | yld (r : Nat)
  deriving Inhabited

/-- How a piece of code ends. -/
inductive Ex where
  | normal
  | exit (id : Nat)
  | goto (l : Nat)
  | ret
  deriving DecidableEq

/-- A loop over a function: the temporaries that its rounds begin with, and its code. -/
structure LR where
  nt : Nat
  e : List (Nat × AV)
  ps : Array Tmp
  assign : Code
  body : Code

inductive AObj where
  | row (cells : List AV) (ver stale : Nat) (ro : Bool)
  | map (entries : List (AV × AV))
  | gvar (g : Nat) (cells : List AV)
  | loop (s : LoopState) (pe : Ex) (L : LR)
  deriving Inhabited

/-- The jump that a round leaves behind. -/
def Ex.code : Ex → Option Code
  | .normal => none
  | .exit i => some (.exit i)
  | .goto l => some (.goto l)
  | .ret => some .ret

abbrev AH := List AObj
abbrev Env := List (Nat × AV)

/-- ('oth b': block b holds no deferred call (false), or a loop's record (true). 'fin r': up to which place the slices of the row's newest state can grow, unless they are full.) Where a row lies: 'canon r' is the block of its newest state; 'fam b = (r, d, n)': block b, of n cells, holds a state of row r, place p at offset d + p. -/
structure Inj where
  canon : Nat → Nat
  fam : Nat → Option (Nat × Int × Nat)
  ver : Nat → Nat
  mapAt : Nat → Option Nat
  fin : Nat → Nat
  oth : Nat → Option Bool

mutual
inductive RelV (σ : Inj) : AV → Value → Prop
  | undef (v : Value) : RelV σ .undef v
  | bool (b : Bool) : RelV σ (.bool b) (.bool b)
  | int (k : IntKind) (n : Int) : RelV σ (.int k n) (.int k n)
  | str (s : ByteArray) : RelV σ (.str s.data.toList) (.string s)
  | nilptr : RelV σ .nilptr (.pointer none)
  | ptr {r off ver b o n : Nat} {d : Int} : σ.fam b = some (r, d, n) → (o : Int) = d + off → ver ≤ σ.ver r → (ver = σ.ver r → b = σ.canon r) →
      RelV σ (.ptr r off ver) (.pointer (some ⟨b, o, none⟩))
  | nilslice {off ver sz : Nat} {full : Bool} : RelV σ (.slice none off 0 ver sz full) (.slice none 0 0)
  | slice {r off len ver sz b o n cap : Nat} {full : Bool} {sp : Option Nat} {d : Int} : σ.fam b = some (r, d, n) → ver ≤ σ.ver r → (ver = σ.ver r → b = σ.canon r) → len ≤ cap →
      (cap ≠ 0 → (o : Int) = d + off ∧ o + cap * sz ≤ n ∧ sp = none) → (full = true → cap = len) → (ver = σ.ver r → σ.fin r ≤ off + cap * sz) → RelV σ (.slice (some r) off len ver sz full) (.slice (some ⟨b, o, sp⟩) len cap)
  | nilmap : RelV σ .nilmap (.map none)
  | map {r b : Nat} : σ.mapAt r = some b → RelV σ (.map r) (.map (some b))
  | nilfunc : RelV σ .nilfunc .nilFunc
  | func (fn : Fn) {f1 c1 : List AV} {f2 c2 : Array Value} : RelVs σ f1 f2.toList → RelVs σ c1 c2.toList → RelV σ (.func fn f1 c1) (.func fn f2 c2)
  | niliface : RelV σ .niliface .nilIface
  | iface (t : TypeId) {v : AV} {c : Value} : RelV σ v c → RelV σ (.iface t v) (.iface t c)
  | agg {vs : List AV} {cs : Array Value} : RelVs σ vs cs.toList → RelV σ (.agg vs) (.agg cs)
  | tuple {vs : List AV} {cs : Array Value} : RelVs σ vs cs.toList → RelV σ (.tuple vs) (.tuple cs)
  | gptr (g off : Nat) : RelV σ (.gptr g off) (.pointer (some ⟨g, off, none⟩))
  | clip {r off len ver sz b o n : Nat} {sp : Option Nat} {d : Int} : σ.fam b = some (r, d, n) → ver ≤ σ.ver r → (ver = σ.ver r → b = σ.canon r) →
      (len ≠ 0 → (o : Int) = d + off ∧ o + len * sz ≤ n ∧ sp = none) → RelV σ (.clip r off len ver sz) (.slice (some ⟨b, o, sp⟩) len len)
  | yld {r b : Nat} : σ.mapAt r = some b → RelV σ (.yld r) (.func (.yield b) #[] #[])
inductive RelVs (σ : Inj) : List AV → List Value → Prop
  | nil : RelVs σ [] []
  | cons {v : AV} {c : Value} {vs : List AV} {cs : List Value} : RelV σ v c → RelVs σ vs cs → RelVs σ (v :: vs) (c :: cs)
end

/-- What a later state of the world owes an earlier one. -/
structure Inj.le (σ σ' : Inj) : Prop where
  fam : ∀ b r d n, σ.fam b = some (r, d, n) → σ'.fam b = some (r, d, n) ∧ σ.ver r ≤ σ'.ver r ∧ (σ.ver r = σ'.ver r → σ'.canon r = σ.canon r)
  fin : ∀ b r d n, σ.fam b = some (r, d, n) → σ.ver r = σ'.ver r → σ'.fin r = σ.fin r
  map : ∀ r b, σ.mapAt r = some b → σ'.mapAt r = some b
  oth : ∀ b k, σ.oth b = some k → σ'.oth b = some k

theorem Inj.le.refl (σ : Inj) : σ.le σ := ⟨fun _ _ _ _ h => ⟨h, Nat.le_refl _, fun _ => rfl⟩, fun _ _ _ _ _ _ => rfl, fun _ _ h => h, fun _ _ h => h⟩
theorem Inj.le.trans {a b c : Inj} (h : a.le b) (k : b.le c) : a.le c := ⟨fun x r d n hx => by
  obtain ⟨h1, h2, h3⟩ := h.fam x r d n hx
  obtain ⟨k1, k2, k3⟩ := k.fam x r d n h1
  exact ⟨k1, Nat.le_trans h2 k2, fun e => by rw [k3 (by omega), h3 (by omega)]⟩, fun x r d n hx e => by
  obtain ⟨h1, h2, h3⟩ := h.fam x r d n hx
  obtain ⟨k1, k2, k3⟩ := k.fam x r d n h1
  rw [k.fin x r d n h1 (by omega), h.fin x r d n hx (by omega)], fun r b hr => k.map r b (h.map r b hr), fun r b hr => k.oth r b (h.oth r b hr)⟩

mutual
theorem RelV.mono {σ σ' : Inj} (h : σ.le σ') : ∀ {v : AV} {c : Value}, RelV σ v c → RelV σ' v c
  | _, _, .undef v => .undef v
  | _, _, .bool b => .bool b
  | _, _, .int k n => .int k n
  | _, _, .str s => .str s
  | _, _, .nilptr => .nilptr
  | _, _, .ptr hf ho hv hc => .ptr (h.fam _ _ _ _ hf).1 ho (Nat.le_trans hv (h.fam _ _ _ _ hf).2.1) (fun e => by
      have h2 := (h.fam _ _ _ _ hf).2
      have e1 := h2.1
      rw [h2.2 (by omega)]; exact hc (by omega))
  | _, _, .nilslice => .nilslice
  | _, _, .slice hf hv hc hl ho hfull hfin => .slice (h.fam _ _ _ _ hf).1 (Nat.le_trans hv (h.fam _ _ _ _ hf).2.1) (fun e => by
      have h2 := (h.fam _ _ _ _ hf).2
      have e1 := h2.1
      rw [h2.2 (by omega)]; exact hc (by omega)) hl ho hfull (fun e => by
      have h2 := (h.fam _ _ _ _ hf).2
      have e1 := h2.1
      rw [h.fin _ _ _ _ hf (by omega)]; exact hfin (by omega))
  | _, _, .nilmap => .nilmap
  | _, _, .map hf => .map (h.map _ _ hf)
  | _, _, .nilfunc => .nilfunc
  | _, _, .func fn h1 h2 => .func fn (RelVs.mono h h1) (RelVs.mono h h2)
  | _, _, .niliface => .niliface
  | _, _, .iface t h1 => .iface t (RelV.mono h h1)
  | _, _, .agg h1 => .agg (RelVs.mono h h1)
  | _, _, .tuple h1 => .tuple (RelVs.mono h h1)
  | _, _, .gptr g off => .gptr g off
  | _, _, .clip hf hv hc ho => .clip (h.fam _ _ _ _ hf).1 (Nat.le_trans hv (h.fam _ _ _ _ hf).2.1) (fun e => by
      have h2 := (h.fam _ _ _ _ hf).2
      have e1 := h2.1
      rw [h2.2 (by omega)]; exact hc (by omega)) ho
  | _, _, .yld hf => .yld (h.map _ _ hf)
theorem RelVs.mono {σ σ' : Inj} (h : σ.le σ') : ∀ {vs : List AV} {cs : List Value}, RelVs σ vs cs → RelVs σ' vs cs
  | _, _, .nil => .nil
  | _, _, .cons h1 h2 => .cons (RelV.mono h h1) (RelVs.mono h h2)
end

/-- The cell at offset o of block b reads as v. -/
def CellAt (σ : Inj) (w : World) (b : Nat) (o : Int) (v : AV) : Prop :=
  v = .undef ∨ ∃ (k : Nat) (c : Value), o = k ∧ w.cell? ⟨b, k, none⟩ = some c ∧ RelV σ v c

theorem CellAt.mono {σ σ' : Inj} {w w' : World} {b : Nat} {o : Int} {v : AV} (h : CellAt σ w b o v) (hl : σ.le σ')
    (hc : ∀ k : Nat, o = k → w'.cell? ⟨b, k, none⟩ = w.cell? ⟨b, k, none⟩) : CellAt σ' w' b o v := by
  rcases h with h | ⟨k, c, hk, hw, hr⟩
  · exact .inl h
  · exact .inr ⟨k, c, hk, by rw [hc k hk]; exact hw, hr.mono hl⟩

/-- What is known of one row. -/
structure RowOk (base : Nat) (σ : Inj) (w : World) (r : Nat) (cells : List AV) (ver stale : Nat) (ro : Bool) : Prop where
  ver : σ.ver r = ver
  fin : σ.fin r = if ro then 0 else cells.length
  new : ∃ (d : Int) (n : Nat), σ.fam (σ.canon r) = some (r, d, n) ∧ ∀ (p : Nat) (v : AV), cells[p]? = some v → CellAt σ w (σ.canon r) (d + p) v
  all : ∀ b d n, σ.fam b = some (r, d, n) → (ro = false → base ≤ b) ∧
    (∃ c e fz, w.heap[b]? = some (.cells c e fz) ∧ c.size = n ∧ (ro = false → fz = (0, 0))) ∧
    ∀ (p : Nat) (v : AV), p < stale → cells[p]? = some v → CellAt σ w b (d + p) v

def RelEs (σ : Inj) : List (AV × AV) → List MapEntry → Prop
  | [], [] => True
  | (k, v) :: l, e :: es => RelV σ k e.key ∧ RelV σ v e.val ∧ RelEs σ l es
  | _, _ => False

structure MapOk (base : Nat) (σ : Inj) (w : World) (r : Nat) (l : List (AV × AV)) : Prop where
  at_ : ∃ b es clock, σ.mapAt r = some b ∧ base ≤ b ∧ w.heap[b]? = some (.map es clock) ∧ RelEs σ l es.toList

def eget : Env → Nat → AV
  | [], _ => .undef
  | (k, v) :: e, t => if k = t then v else eget e t

/-- What is known of one loop's record. -/
structure LoopOk (base : Nat) (σ : Inj) (w : World) (r : Nat) (s : LoopState) (pe : Ex) (L : LR) : Prop where
  at_ : ∃ (b : Nat) (R : Loop), σ.mapAt r = some b ∧ base ≤ b ∧ w.heap[b]? = some (.loop R) ∧ R.state = s ∧ R.pending = pe.code ∧ R.tmps.size = L.nt ∧ R.params = L.ps ∧ R.assign = L.assign ∧ R.body = L.body ∧
    (∀ t, RelV σ (eget L.e t) (R.tmps.getD t undef)) ∧ σ.oth b = some true

/-- A block that is no row: of deferred calls, none of them there, or a loop's record. -/
def OthAt (w : World) (b : Nat) : Bool → Prop
  | false => w.heap[b]? = some (.deferred (some []))
  | true => ∃ R, w.heap[b]? = some (.loop R)

/-- A package's variable that nobody writes. -/
def GvOk (base : Nat) (w0 : World) (σ : Inj) (g : Nat) (cells : List AV) : Prop := g < base ∧ ∃ C e fz, w0.heap[g]? = some (.cells C e fz) ∧ RelVs σ cells C.toList
theorem GvOk.mono {base : Nat} {w0 : World} {σ σ' : Inj} {g : Nat} {cells : List AV} (h : GvOk base w0 σ g cells) (hl : σ.le σ') : GvOk base w0 σ' g cells :=
  let ⟨h1, C, e, fz, h2, h3⟩ := h
  ⟨h1, C, e, fz, h2, h3.mono hl⟩
theorem gv_set {H : AH} {r r' g : Nat} {cells c : List AV} {v s : Nat} {o : Bool} (h : (H.set r (.row c v s o))[r']? = some (.gvar g cells)) : H[r']? = some (.gvar g cells) := by
  rw [List.getElem?_set] at h
  split at h
  · split at h <;> cases h
  · exact h
theorem gv_push {H : AH} {r' g : Nat} {cells c : List AV} {v s : Nat} {o : Bool} (h : (H ++ [.row c v s o])[r']? = some (.gvar g cells)) : H[r']? = some (.gvar g cells) := by
  rcases Nat.lt_or_ge r' H.length with hr | hr
  · rw [List.getElem?_append_left hr] at h; exact h
  · rw [List.getElem?_append_right hr] at h
    rcases Nat.lt_or_ge (r' - H.length) 1 with h1 | h1
    · have : r' - H.length = 0 := by omega
      rw [this] at h; simp at h
    · rw [List.getElem?_eq_none (by simpa using h1)] at h; cases h

/-- The heap of rows H describes the world w, which below block 'base' is as w0 was. -/
structure Sim (base : Nat) (w0 : World) (σ : Inj) (H : AH) (w : World) : Prop where
  below : Below base w0 w
  size : base ≤ w.heap.size
  lt : ∀ b r d n, σ.fam b = some (r, d, n) → r < H.length ∧ b < w.heap.size
  mlt : ∀ r b, σ.mapAt r = some b → r < H.length ∧ b < w.heap.size
  rows : ∀ r cells ver stale ro, H[r]? = some (.row cells ver stale ro) → RowOk base σ w r cells ver stale ro
  maps : ∀ r l, H[r]? = some (.map l) → MapOk base σ w r l
  gvars : ∀ (r g : Nat) (cells : List AV), H[r]? = some (AObj.gvar g cells) → GvOk base w0 σ g cells
  loops : ∀ (r : Nat) (s : LoopState) (pe : Ex) (L : LR), H[r]? = some (.loop s pe L) → LoopOk base σ w r s pe L
  oths : ∀ b k, σ.oth b = some k → base ≤ b ∧ OthAt w b k
  minj : ∀ r r' b, σ.mapAt r = some b → σ.mapAt r' = some b → r = r'

theorem Obj.cells_loop (R : Loop) : (Obj.loop R).isCells = false := rfl
theorem LoopOk.mono {base : Nat} {σ σ' : Inj} {w w' : World} {r : Nat} {s : LoopState} {pe : Ex} {L : LR} (h : LoopOk base σ w r s pe L) (hl : σ.le σ') (hk : ∀ (k : Nat) (o : Obj), w.heap[k]? = some o → o.isCells = false → w'.heap[k]? = some o) : LoopOk base σ' w' r s pe L := by
  obtain ⟨b, R, h1, h2, h3, h4, h5, h6, h7, h8, h9, h10, h11⟩ := h.at_
  exact ⟨b, R, hl.map _ _ h1, h2, hk _ _ h3 rfl, h4, h5, h6, h7, h8, h9, fun t => (h10 t).mono hl, hl.oth _ _ h11⟩
theorem OthAt.mono {w w' : World} {b : Nat} {k : Bool} (h : OthAt w b k) (hk : ∀ (k : Nat) (o : Obj), w.heap[k]? = some o → o.isCells = false → w'.heap[k]? = some o) : OthAt w' b k := by
  cases k with
  | false => exact hk _ _ h rfl
  | true => obtain ⟨R, h⟩ := h; exact ⟨R, hk _ _ h rfl⟩
theorem OthAt.lt {w : World} {b : Nat} {k : Bool} (h : OthAt w b k) : b < w.heap.size := by
  cases k with
  | false => exact (Array.getElem?_eq_some_iff.1 h).1
  | true => obtain ⟨R, h⟩ := h; exact (Array.getElem?_eq_some_iff.1 h).1
theorem Sim.loops_of {base : Nat} {w0 w w' : World} {σ σ' : Inj} {H H' : AH} (S : Sim base w0 σ H w) (hl : σ.le σ') (hk : ∀ (k : Nat) (o : Obj), w.heap[k]? = some o → o.isCells = false → w'.heap[k]? = some o)
    (hH : ∀ (r : Nat) (s : LoopState) (pe : Ex) (L : LR), H'[r]? = some (.loop s pe L) → H[r]? = some (.loop s pe L)) : ∀ (r : Nat) (s : LoopState) (pe : Ex) (L : LR), H'[r]? = some (.loop s pe L) → LoopOk base σ' w' r s pe L :=
  fun r s pe L h => (S.loops r s pe L (hH r s pe L h)).mono hl hk
theorem Sim.oths_of {base : Nat} {w0 w w' : World} {σ σ' : Inj} {H : AH} (S : Sim base w0 σ H w) (ho : ∀ b k, σ'.oth b = some k → σ.oth b = some k) (hk : ∀ (k : Nat) (o : Obj), w.heap[k]? = some o → o.isCells = false → w'.heap[k]? = some o) :
    ∀ b k, σ'.oth b = some k → base ≤ b ∧ OthAt w' b k :=
  fun b k h => ⟨(S.oths b k (ho b k h)).1, (S.oths b k (ho b k h)).2.mono hk⟩
theorem loop_set {H : AH} {r r' : Nat} {cells : List AV} {v s : Nat} {o : Bool} {s' : LoopState} {pe : Ex} {L : LR} (h : (H.set r (.row cells v s o))[r']? = some (.loop s' pe L)) : H[r']? = some (.loop s' pe L) := by
  rw [List.getElem?_set] at h
  split at h
  · split at h <;> cases h
  · exact h
theorem loop_push {H : AH} {r' : Nat} {cells : List AV} {v s : Nat} {o : Bool} {s' : LoopState} {pe : Ex} {L : LR} (h : (H ++ [.row cells v s o])[r']? = some (.loop s' pe L)) : H[r']? = some (.loop s' pe L) := by
  rcases Nat.lt_or_ge r' H.length with hr | hr
  · rw [List.getElem?_append_left hr] at h; exact h
  · rw [List.getElem?_append_right hr] at h
    rcases Nat.lt_or_ge (r' - H.length) 1 with h1 | h1
    · have : r' - H.length = 0 := by omega
      rw [this] at h; simp at h
    · rw [List.getElem?_eq_none (by simpa using h1)] at h; cases h

/-! ### Environments -/
def eset : Env → Nat → AV → Env
  | [], t, v => [(t, v)]
  | (k, u) :: e, t, v => if t < k then (t, v) :: (k, u) :: e else if k = t then (t, v) :: e else (k, u) :: eset e t v
def edel : Env → Nat → Env
  | [], _ => []
  | (k, u) :: e, t => if k = t then edel e t else (k, u) :: edel e t
def ekeep (ks : List Nat) : Env → Env
  | [] => []
  | (k, u) :: e => if ks.contains k then (k, u) :: ekeep ks e else ekeep ks e

theorem eget_eset (e : Env) (t s : Nat) (v : AV) : eget (eset e t v) s = if t = s then v else eget e s := by
  induction e with
  | nil => simp [eset, eget]
  | cons x e ih =>
    obtain ⟨k, u⟩ := x
    simp only [eset]
    split
    · simp only [eget]
    · split
      · rename_i h1 h2; subst h2; simp only [eget]; split <;> rfl
      · rename_i h1 h2
        simp only [eget, ih]
        by_cases h3 : k = s
        · subst h3; rw [if_pos rfl, if_neg (fun h => h2 h.symm), if_pos rfl]
        · simp [h3]

theorem eget_edel (e : Env) (t s : Nat) : eget (edel e t) s = if t = s then .undef else eget e s := by
  induction e with
  | nil => simp [edel, eget]
  | cons x e ih =>
    obtain ⟨k, u⟩ := x
    simp only [edel]
    split
    · rename_i h; subst h; rw [ih]; simp only [eget]; split <;> rfl
    · rename_i h
      simp only [eget, ih]
      by_cases h3 : k = s
      · subst h3; rw [if_pos rfl, if_neg (fun h' => h h'.symm), if_pos rfl]
      · simp [h3]

theorem eget_ekeep (ks : List Nat) (e : Env) (s : Nat) : eget (ekeep ks e) s = eget e s ∨ eget (ekeep ks e) s = .undef := by
  induction e with
  | nil => exact .inl rfl
  | cons x e ih =>
    obtain ⟨k, u⟩ := x
    simp only [ekeep]
    by_cases h : k = s
    · subst h
      split
      · simp [eget]
      · rename_i hk
        right
        clear ih
        induction e with
        | nil => rfl
        | cons y e ih =>
          obtain ⟨k', u'⟩ := y
          simp only [ekeep]
          split
          · rename_i hk'
            simp only [eget]
            rw [if_neg (fun h => hk (by rw [← h]; exact hk'))]
            exact ih
          · exact ih
    · split
      · simp only [eget, h, if_false]; exact ih
      · simp only [eget, h, if_false]; exact ih

/-- The environment describes the temporaries. -/
def ERel (σ : Inj) (nt : Nat) (e : Env) (a : Act) : Prop :=
  a.tmps.size = nt ∧ True ∧ ∀ t, RelV σ (eget e t) (a.tmps.getD t undef)

theorem ERel.mono {σ σ' : Inj} {nt : Nat} {e : Env} {a : Act} (h : ERel σ nt e a) (hl : σ.le σ') : ERel σ' nt e a :=
  ⟨h.1, h.2.1, fun t => (h.2.2 t).mono hl⟩
theorem ERel.keep {σ : Inj} {nt : Nat} {e : Env} {a : Act} (h : ERel σ nt e a) (ks : List Nat) : ERel σ nt (ekeep ks e) a :=
  ⟨h.1, h.2.1, fun t => by
    rcases eget_ekeep ks e t with h1 | h1
    · rw [h1]; exact h.2.2 t
    · rw [h1]; exact .undef _⟩
theorem ERel.put {σ : Inj} {nt : Nat} {e : Env} {a : Act} (h : ERel σ nt e a) {t : Nat} {v : AV} {c : Value} (ht : t < nt) (hv : RelV σ v c) :
    ERel σ nt (eset e t v) (a.put (some t) c) := by
  refine ⟨by simp [Act.put, h.1], h.2.1, fun s => ?_⟩
  rw [eget_eset]
  by_cases hs : t = s
  · subst hs
    have ht' : t < a.tmps.size := by rw [h.1]; exact ht
    simp [Act.put, Array.getD, ht', hv]
  · have := h.2.2 s
    simp only [hs, if_false, Act.put]
    simpa [Array.getD_eq_getD_getElem?, Array.getElem?_setIfInBounds_ne hs] using this
theorem ERel.del {σ : Inj} {nt : Nat} {e : Env} {a : Act} (h : ERel σ nt e a) (t : Nat) (c : Value) : ERel σ nt (edel e t) (a.put (some t) c) := by
  refine ⟨by simp [Act.put, h.1], h.2.1, fun s => ?_⟩
  rw [eget_edel]
  by_cases hs : t = s
  · subst hs; simp; exact .undef _
  · have := h.2.2 s
    simp only [hs, if_false, Act.put]
    simpa [Array.getD_eq_getD_getElem?, Array.getElem?_setIfInBounds_ne hs] using this

/-! ### Operands -/
def absV : Nat → Value → AV
  | _, .bool b => .bool b
  | _, .int k n => .int k n
  | _, .string s => .str s.data.toList
  | _, .pointer none => .nilptr
  | _, .slice none 0 0 => .slice none 0 0 0 1 false
  | _, .map none => .nilmap
  | _, .nilFunc => .nilfunc
  | _, .nilIface => .niliface
  | n + 1, .iface t v => .iface t (absV n v)
  | n + 1, .agg cs => .agg (cs.toList.map (absV n))
  | n + 1, .tuple vs => .tuple (vs.toList.map (absV n))
  | _, .func fn a b => if a.isEmpty && b.isEmpty then .func fn [] [] else .undef
  | _, _ => .undef

theorem RelVs.of_map {σ : Inj} {f : Value → AV} : ∀ {l : List Value}, (∀ v ∈ l, RelV σ (f v) v) → RelVs σ (l.map f) l
  | [], _ => .nil
  | v :: l, h => .cons (h v (by simp)) (RelVs.of_map fun x hx => h x (by simp [hx]))

theorem relV_fn0 {σ : Inj} (fn : Fn) (a b : Array Value) : RelV σ (if a.isEmpty && b.isEmpty then .func fn [] [] else .undef) (.func fn a b) := by
  split
  · rename_i h
    simp at h
    obtain ⟨rfl, rfl⟩ := h
    exact .func _ .nil .nil
  · exact .undef _

theorem relV_slice0 {σ : Inj} (n : Nat) (a : Option Addr) (l c : Nat) : RelV σ (absV n (.slice a l c)) (.slice a l c) := by
  unfold absV
  split <;> first | exact .nilslice | exact .undef _ | (rename_i h; cases h; exact .nilslice) | (rename_i h; cases h)

theorem relV_absV (σ : Inj) : ∀ (n : Nat) (v : Value), RelV σ (absV n v) v := by
  intro n
  induction n with
  | zero =>
    intro v
    cases v with
    | bool b => exact .bool b
    | int k n => exact .int k n
    | string s => exact .str s
    | pointer a => cases a <;> first | exact .nilptr | exact .undef _
    | slice a l c => exact relV_slice0 _ _ _ _
    | map a => cases a <;> first | exact .nilmap | exact .undef _
    | nilFunc => exact .nilfunc
    | nilIface => exact .niliface
    | func fn a b => simpa [absV] using relV_fn0 fn a b
    | _ => exact .undef _
  | succ n ih =>
    intro v
    cases v with
    | bool b => exact .bool b
    | int k n => exact .int k n
    | string s => exact .str s
    | pointer a => cases a <;> first | exact .nilptr | exact .undef _
    | slice a l c => exact relV_slice0 _ _ _ _
    | map a => cases a <;> first | exact .nilmap | exact .undef _
    | nilFunc => exact .nilfunc
    | nilIface => exact .niliface
    | func fn a b => simpa [absV] using relV_fn0 fn a b
    | iface t v => exact .iface _ (ih _)
    | agg cs => exact .agg (RelVs.of_map fun v _ => ih v)
    | tuple cs => exact .tuple (RelVs.of_map fun v _ => ih v)
    | _ => exact .undef _

def oval (e : Env) : Operand → AV
  | .tmp t => eget e t
  | .const v => absV 3 v
  | .global g => .gptr g 0
  | .func f => .func (.func f) [] []

theorem oval_rel {σ : Inj} {nt : Nat} {e : Env} {a : Act} (h : ERel σ nt e a) (x : Operand) : RelV σ (oval e x) (a.eval x) := by
  cases x with
  | tmp t => exact h.2.2 t
  | const v => exact relV_absV σ 3 v
  | global g => exact .gptr g 0
  | func f => exact .func _ .nil .nil

end Go.Proofs.Ytjfmiohgkcjdnaa.AX
