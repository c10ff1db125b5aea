/- A plain reading of runs: functions; rows that nobody can reach any more are left out. -/
import Derived.Test.YtjfmiohgkcjdnaaAxH
namespace Go.Proofs.Ytjfmiohgkcjdnaa.AX
open Go Go.RowKit

/-! ### Values that name old rows alone -/
mutual
inductive Bel (N : Nat) : AV → Prop
  | undef : Bel N .undef
  | bool (b : Bool) : Bel N (.bool b)
  | int (k : IntKind) (n : Int) : Bel N (.int k n)
  | str (s : List UInt8) : Bel N (.str s)
  | nilptr : Bel N .nilptr
  | ptr {r o v : Nat} : r < N → Bel N (.ptr r o v)
  | nilslice {off len ver sz : Nat} {full : Bool} : Bel N (.slice none off len ver sz full)
  | slice {r off len ver sz : Nat} {full : Bool} : r < N → Bel N (.slice (some r) off len ver sz full)
  | nilmap : Bel N .nilmap
  | map {r : Nat} : r < N → Bel N (.map r)
  | nilfunc : Bel N .nilfunc
  | func (fn : Fn) {a b : List AV} : Bels N a → Bels N b → Bel N (.func fn a b)
  | niliface : Bel N .niliface
  | iface (t : TypeId) {v : AV} : Bel N v → Bel N (.iface t v)
  | agg {vs : List AV} : Bels N vs → Bel N (.agg vs)
  | tuple {vs : List AV} : Bels N vs → Bel N (.tuple vs)
  | gptr (g off : Nat) : Bel N (.gptr g off)
  | clip {r off len ver sz : Nat} : r < N → Bel N (.clip r off len ver sz)
  | yld {r : Nat} : r < N → Bel N (.yld r)
inductive Bels (N : Nat) : List AV → Prop
  | nil : Bels N []
  | cons {v : AV} {vs : List AV} : Bel N v → Bels N vs → Bels N (v :: vs)
end

def belB (N : Nat) : Nat → AV → Bool
  | _, .undef | _, .bool _ | _, .int _ _ | _, .str _ | _, .nilptr | _, .nilmap | _, .nilfunc | _, .niliface | _, .gptr _ _ => true
  | _, .clip r _ _ _ _ => decide (r < N)
  | _, .yld r => decide (r < N)
  | _, .ptr r _ _ => decide (r < N)
  | _, .slice none _ _ _ _ _ => true
  | _, .slice (some r) _ _ _ _ _ => decide (r < N)
  | _, .map r => decide (r < N)
  | n + 1, .func _ a b => a.all (belB N n) && b.all (belB N n)
  | n + 1, .iface _ v => belB N n v
  | n + 1, .agg vs => vs.all (belB N n)
  | n + 1, .tuple vs => vs.all (belB N n)
  | 0, .func .. | 0, .iface .. | 0, .agg .. | 0, .tuple .. => false

theorem Bels.of_all {N : Nat} {p : AV → Bool} (h : ∀ v, p v = true → Bel N v) : ∀ {vs : List AV}, vs.all p = true → Bels N vs
  | [], _ => .nil
  | v :: vs, hv => by
    simp only [List.all_cons, Bool.and_eq_true] at hv
    exact .cons (h v hv.1) (Bels.of_all h hv.2)

theorem Bel.of_belB {N : Nat} : ∀ (n : Nat) (v : AV), belB N n v = true → Bel N v := by
  intro n
  induction n with
  | zero => intro v h; cases v with
    | slice r _ _ _ _ _ => cases r <;> simp [belB] at h <;> constructor; assumption
    | _ => simp [belB] at h <;> constructor <;> assumption
  | succ n ih => intro v h; cases v with
    | slice r _ _ _ _ _ => cases r <;> simp [belB] at h <;> constructor; assumption
    | func fn a b =>
      simp only [belB, Bool.and_eq_true] at h
      exact .func _ (Bels.of_all ih h.1) (Bels.of_all ih h.2)
    | iface t v => exact .iface t (ih v (by simpa [belB] using h))
    | agg vs => exact .agg (Bels.of_all ih (by simpa only [belB] using h))
    | tuple vs => exact .tuple (Bels.of_all ih (by simpa only [belB] using h))
    | _ => simp [belB] at h <;> constructor <;> assumption

mutual
theorem RelV.bel {σ : Inj} {N : Nat} (h1 : ∀ b r d n, σ.fam b = some (r, d, n) → r < N) (h2 : ∀ r b, σ.mapAt r = some b → r < N) : ∀ {v : AV} {c : Value}, RelV σ v c → Bel N v
  | _, _, .undef _ => .undef
  | _, _, .bool b => .bool b
  | _, _, .int k n => .int k n
  | _, _, .str s => .str _
  | _, _, .nilptr => .nilptr
  | _, _, .ptr hf _ _ _ => .ptr (h1 _ _ _ _ hf)
  | _, _, .nilslice => .nilslice
  | _, _, .slice hf _ _ _ _ _ _ => .slice (h1 _ _ _ _ hf)
  | _, _, .gptr g off => .gptr g off
  | _, _, .clip hf _ _ _ => .clip (h1 _ _ _ _ hf)
  | _, _, .yld hf => .yld (h2 _ _ hf)
  | _, _, .nilmap => .nilmap
  | _, _, .map hf => .map (h2 _ _ hf)
  | _, _, .nilfunc => .nilfunc
  | _, _, .func fn g1 g2 => .func fn (RelVs.bel h1 h2 g1) (RelVs.bel h1 h2 g2)
  | _, _, .niliface => .niliface
  | _, _, .iface t g => .iface t (RelV.bel h1 h2 g)
  | _, _, .agg g => .agg (RelVs.bel h1 h2 g)
  | _, _, .tuple g => .tuple (RelVs.bel h1 h2 g)
theorem RelVs.bel {σ : Inj} {N : Nat} (h1 : ∀ b r d n, σ.fam b = some (r, d, n) → r < N) (h2 : ∀ r b, σ.mapAt r = some b → r < N) : ∀ {vs : List AV} {cs : List Value}, RelVs σ vs cs → Bels N vs
  | _, _, .nil => .nil
  | _, _, .cons g1 g2 => .cons (RelV.bel h1 h2 g1) (RelVs.bel h1 h2 g2)
end

/-- σ' knows of the rows below N what σ knows. -/
structure Inj.same (N : Nat) (σ σ' : Inj) : Prop where
  fam : ∀ b r d n, r < N → σ.fam b = some (r, d, n) → σ'.fam b = some (r, d, n)
  canon : ∀ r, r < N → σ'.canon r = σ.canon r
  ver : ∀ r, r < N → σ'.ver r = σ.ver r
  fin : ∀ r, r < N → σ'.fin r = σ.fin r
  map : ∀ r b, r < N → σ.mapAt r = some b → σ'.mapAt r = some b

mutual
theorem RelV.cut {σ σ' : Inj} {N : Nat} (h : σ.same N σ') : ∀ {v : AV} {c : Value}, RelV σ v c → Bel N v → RelV σ' v c
  | _, _, .undef v, _ => .undef v
  | _, _, .bool b, _ => .bool b
  | _, _, .int k n, _ => .int k n
  | _, _, .str s, _ => .str s
  | _, _, .nilptr, _ => .nilptr
  | _, _, .ptr hf ho hv hc, .ptr hr => .ptr (h.fam _ _ _ _ hr hf) ho (by rw [h.ver _ hr]; exact hv) (by rw [h.ver _ hr, h.canon _ hr]; exact hc)
  | _, _, .nilslice, _ => .nilslice
  | _, _, .slice hf hv hc hl ho hfl hfin, .slice hr => .slice (h.fam _ _ _ _ hr hf) (by rw [h.ver _ hr]; exact hv) (by rw [h.ver _ hr, h.canon _ hr]; exact hc) hl ho hfl (by rw [h.ver _ hr, h.fin _ hr]; exact hfin)
  | _, _, .gptr g off, _ => .gptr g off
  | _, _, .clip hf hv hc ho, .clip hr => .clip (h.fam _ _ _ _ hr hf) (by rw [h.ver _ hr]; exact hv) (by rw [h.ver _ hr, h.canon _ hr]; exact hc) ho
  | _, _, .yld hf, .yld hr => .yld (h.map _ _ hr hf)
  | _, _, .nilmap, _ => .nilmap
  | _, _, .map hf, .map hr => .map (h.map _ _ hr hf)
  | _, _, .nilfunc, _ => .nilfunc
  | _, _, .func fn g1 g2, .func _ k1 k2 => .func fn (RelVs.cut h g1 k1) (RelVs.cut h g2 k2)
  | _, _, .niliface, _ => .niliface
  | _, _, .iface t g, .iface _ k => .iface t (RelV.cut h g k)
  | _, _, .agg g, .agg k => .agg (RelVs.cut h g k)
  | _, _, .tuple g, .tuple k => .tuple (RelVs.cut h g k)
theorem RelVs.cut {σ σ' : Inj} {N : Nat} (h : σ.same N σ') : ∀ {vs : List AV} {cs : List Value}, RelVs σ vs cs → Bels N vs → RelVs σ' vs cs
  | _, _, .nil, _ => .nil
  | _, _, .cons g1 g2, .cons k1 k2 => .cons (RelV.cut h g1 k1) (RelVs.cut h g2 k2)
end

def ObjBel (N : Nat) : AObj → Prop
  | .row cells _ _ _ => ∀ v ∈ cells, Bel N v
  | .map l => ∀ x ∈ l, Bel N x.1 ∧ Bel N x.2
  | .gvar _ cells => Bels N cells
  | .loop _ _ L => ∀ t, Bel N (eget L.e t)

def objBelB (N : Nat) : AObj → Bool
  | .row cells _ _ _ => cells.all (belB N 4)
  | .map l => l.all fun x => belB N 4 x.1 && belB N 4 x.2
  | .gvar _ cells => cells.all (belB N 4)
  | .loop _ _ L => L.e.all fun x => belB N 4 x.2

theorem Bel.eget {N : Nat} : ∀ {e : Env}, (∀ x ∈ e, Bel N x.2) → ∀ t, Bel N (eget e t)
  | [], _, _ => .undef
  | (k, v) :: e, h, t => by
    simp only [AX.eget]
    split
    · exact h (k, v) (by simp)
    · exact Bel.eget (fun x hx => h x (by simp [hx])) t

theorem ObjBel.of_B {N : Nat} {o : AObj} (h : objBelB N o = true) : ObjBel N o := by
  cases o with
  | row cells v s ro =>
    intro v hv
    simp only [objBelB, List.all_eq_true] at h
    exact .of_belB 4 v (h v hv)
  | map l =>
    intro x hx
    simp only [objBelB, List.all_eq_true, Bool.and_eq_true] at h
    exact ⟨.of_belB 4 _ (h x hx).1, .of_belB 4 _ (h x hx).2⟩
  | gvar g cells => exact Bels.of_all (fun v hv => .of_belB 4 v hv) (by simpa only [objBelB] using h)
  | loop s pe L =>
    simp only [objBelB, List.all_eq_true] at h
    exact Bel.eget fun x hx => .of_belB 4 _ (h x hx)

/-- The old rows name no new ones: each is as it was, or names old rows alone. -/
def PrefOk (H H' : AH) : Prop := H.length ≤ H'.length ∧ ∀ r o, r < H.length → H'[r]? = some o → H[r]? = some o ∨ ObjBel H.length o

section
variable {base : Nat} {w0 w w' : World} {σ σ' : Inj} {H H' : AH}

theorem Sim.objBel (S : Sim base w0 σ H w) {r : Nat} {o : AObj} (h : H[r]? = some o) : ObjBel H.length o := by
  have l1 : ∀ b r d n, σ.fam b = some (r, d, n) → r < H.length := fun b r d n h => (S.lt b r d n h).1
  have l2 : ∀ r b, σ.mapAt r = some b → r < H.length := fun r b h => (S.mlt r b h).1
  cases o with
  | row cells ver stale ro =>
    intro v hv
    obtain ⟨p, hp⟩ := List.getElem?_of_mem hv
    obtain ⟨d, n, _, hc⟩ := (S.rows _ _ _ _ _ h).new
    rcases hc p v hp with h1 | ⟨k, c, _, _, h1⟩
    · subst h1; exact .undef
    · exact h1.bel l1 l2
  | map l =>
    obtain ⟨b, es, clock, _, _, _, hes⟩ := (S.maps _ _ h).at_
    intro x hx
    have : ∀ {l : List (AV × AV)} {es : List MapEntry}, RelEs σ l es → ∀ x ∈ l, Bel H.length x.1 ∧ Bel H.length x.2 := by
      intro l
      induction l with
      | nil => intro es _ x hx; simp at hx
      | cons y l ih => intro es he x hx; cases es with
        | nil => simp [RelEs] at he
        | cons z es =>
          rcases List.mem_cons.1 hx with e | e
          · subst e; exact ⟨he.1.bel l1 l2, he.2.1.bel l1 l2⟩
          · exact ih he.2.2 x e
    exact this hes x hx
  | gvar g cells =>
    obtain ⟨-, C, e, fz, -, hr⟩ := S.gvars _ _ _ h
    exact hr.bel l1 l2
  | loop s pe L =>
    obtain ⟨b, R, -, -, -, -, -, -, -, -, -, hr, -⟩ := (S.loops _ _ _ _ h).at_
    exact fun t => (hr t).bel l1 l2

/-- The rows from N on are forgotten, but for one that is put at place N. -/
def Inj.cut (σ : Inj) (N : Nat) (keep : Option (Nat × Nat × Int × Nat)) (fm : Nat) : Inj where
  fin x := if x < N then σ.fin x else fm
  canon x := if x < N then σ.canon x else match keep with | some (_, b, _, _) => b | none => 0
  fam b := match σ.fam b with
    | some (r, d, n) => if r < N then some (r, d, n) else match keep with
      | some (_, b', d', n') => if b = b' then some (N, d', n') else none
      | none => none
    | none => none
  ver x := if x < N then σ.ver x else 0
  mapAt r := if r < N then σ.mapAt r else none
  oth := σ.oth

theorem Inj.cut_same (σ : Inj) (N : Nat) (k : Option (Nat × Nat × Int × Nat)) (fm : Nat) : σ.same N (σ.cut N k fm) where
  fin r hr := by simp [Inj.cut, hr]
  fam b r d n hr h := by simp [Inj.cut, h, hr]
  canon r hr := by simp [Inj.cut, hr]
  ver r hr := by simp [Inj.cut, hr]
  map r b hr h := by simp [Inj.cut, h, hr]

theorem Inj.cut_fam {σ : Inj} {N b r : Nat} {k : Option (Nat × Nat × Int × Nat)} {d : Int} {n fm : Nat} (hr : r < N) (h : (σ.cut N k fm).fam b = some (r, d, n)) : σ.fam b = some (r, d, n) := by
  simp only [Inj.cut] at h
  split at h
  · rename_i r' d' n' hf
    split at h
    · rw [← h]; exact hf
    · split at h
      · split at h
        · cases h; omega
        · cases h
      · cases h
  · cases h

/-- What was known of an old row is known of it still. -/
theorem RowOk.cut {r : Nat} {cells : List AV} {ver stale : Nat} {ro : Bool} (R : RowOk base σ w r cells ver stale ro) {N : Nat} (hr : r < N) (hb : ∀ v ∈ cells, Bel N v) (k : Option (Nat × Nat × Int × Nat)) (fm : Nat) : RowOk base (σ.cut N k fm) w r cells ver stale ro := by
  have hs := σ.cut_same N k fm
  have hcell : ∀ {b : Nat} {o : Int} {v : AV}, v ∈ cells → CellAt σ w b o v → CellAt (σ.cut N k fm) w b o v := by
    intro b o v hv h
    rcases h with h | ⟨q, c, h1, h2, h3⟩
    · exact .inl h
    · exact .inr ⟨q, c, h1, h2, h3.cut hs (hb v hv)⟩
  refine ⟨by rw [hs.ver _ hr]; exact R.ver, by rw [hs.fin _ hr]; exact R.fin, ?_, ?_⟩
  · obtain ⟨d, n, hf, hc⟩ := R.new
    rw [hs.canon _ hr]
    exact ⟨d, n, hs.fam _ _ _ _ hr hf, fun p v hp => hcell (List.mem_of_getElem? hp) (hc p v hp)⟩
  · intro b d n hf
    obtain ⟨g1, g2, g3⟩ := R.all b d n (Inj.cut_fam hr hf)
    exact ⟨g1, g2, fun p v hp hv => hcell (List.mem_of_getElem? hv) (g3 p v hp hv)⟩

theorem RelEs.cut {N : Nat} (h : σ.same N σ') : ∀ {l : List (AV × AV)} {es : List MapEntry}, RelEs σ l es → (∀ x ∈ l, Bel N x.1 ∧ Bel N x.2) → RelEs σ' l es
  | [], [], _, _ => trivial
  | [], _ :: _, h1, _ => h1.elim
  | _ :: _, [], h1, _ => h1.elim
  | x :: _, _ :: _, h1, hb => ⟨h1.1.cut h (hb x (by simp)).1, h1.2.1.cut h (hb x (by simp)).2, RelEs.cut h h1.2.2 fun y hy => hb y (by simp [hy])⟩

theorem LoopOk.cut {r : Nat} {s : LoopState} {pe : Ex} {L : LR} (h : LoopOk base σ w r s pe L) {N : Nat} (hr : r < N) (hs : σ.same N σ') (ho : σ'.oth = σ.oth) (hb : ∀ t, Bel N (eget L.e t)) : LoopOk base σ' w r s pe L := by
  obtain ⟨b, R, h1, h2, h3, h4, h5, h6, h7, h8, h9, h10, h11⟩ := h.at_
  exact ⟨b, R, hs.map _ _ hr h1, h2, h3, h4, h5, h6, h7, h8, h9, fun t => (h10 t).cut hs (hb t), by rw [ho]; exact h11⟩
theorem cut_minj (S : Sim base w0 σ H w) (N : Nat) (k : Option (Nat × Nat × Int × Nat)) (fm : Nat) : ∀ r r' b, (σ.cut N k fm).mapAt r = some b → (σ.cut N k fm).mapAt r' = some b → r = r' := by
  intro r r' b h h'
  simp only [Inj.cut] at h h'
  split at h
  · split at h'
    · exact S.minj _ _ _ h h'
    · cases h'
  · cases h

theorem le_cut (S0 : Sim base w0 σ H w) (hl : σ.le σ') (k : Option (Nat × Nat × Int × Nat)) (fm : Nat) : σ.le (σ'.cut H.length k fm) := by
  have hs := σ'.cut_same H.length k fm
  refine ⟨fun b r d n h => ?_, fun b r d n h e => by
    have hr := (S0.lt _ _ _ _ h).1
    rw [hs.ver _ hr] at e
    rw [hs.fin _ hr]
    exact hl.fin _ _ _ _ h e, fun r b h => hs.map _ _ (S0.mlt _ _ h).1 (hl.map _ _ h), fun b k h => hl.oth b k h⟩
  have hr := (S0.lt _ _ _ _ h).1
  obtain ⟨h1, h2, h3⟩ := hl.fam _ _ _ _ h
  rw [hs.ver _ hr, hs.canon _ hr]
  exact ⟨hs.fam _ _ _ _ hr h1, h2, h3⟩

/-- All new rows are left out. -/
theorem Sim.trunc (S0 : Sim base w0 σ H w) (S : Sim base w0 σ' H' w') (hp : PrefOk H H') : Sim base w0 (σ'.cut H.length none 0) (H'.take H.length) w' := by
  have hbel : ∀ r o, r < H.length → H'[r]? = some o → ObjBel H.length o := fun r o hr ho => (hp.2 r o hr ho).elim (fun h => S0.objBel h) id
  have hlen : (H'.take H.length).length = H.length := by rw [List.length_take]; exact Nat.min_eq_left hp.1
  have hget : ∀ r o, (H'.take H.length)[r]? = some o → r < H.length ∧ H'[r]? = some o := by
    intro r o h
    rcases Nat.lt_or_ge r H.length with hr | hr
    · rw [List.getElem?_take_of_lt hr] at h; exact ⟨hr, h⟩
    · rw [List.getElem?_eq_none (by omega)] at h; cases h
  refine ⟨S.below, S.size, ?_, ?_, ?_, ?_, fun r g c h => by
    obtain ⟨hr, h⟩ := hget _ _ h
    obtain ⟨k1, C, e, fz, k2, k3⟩ := S.gvars _ _ _ h
    exact ⟨k1, C, e, fz, k2, k3.cut (σ'.cut_same H.length none 0) (hbel _ _ hr h)⟩, fun r s pe L h => by
    obtain ⟨hr, h⟩ := hget _ _ h
    exact (S.loops _ _ _ _ h).cut hr (σ'.cut_same H.length none 0) rfl (hbel _ _ hr h), S.oths, cut_minj S _ _ _⟩
  · intro b r d n h
    rw [hlen]
    simp only [Inj.cut] at h
    split at h
    · rename_i r' d' n' hf
      split at h
      · cases h; exact ⟨by assumption, (S.lt _ _ _ _ hf).2⟩
      · cases h
    · cases h
  · intro r b h
    rw [hlen]
    simp only [Inj.cut] at h
    split at h
    · exact ⟨by assumption, (S.mlt _ _ h).2⟩
    · cases h
  · intro r cells ver stale ro h
    obtain ⟨hr, h⟩ := hget _ _ h
    exact (S.rows _ _ _ _ _ h).cut hr (hbel _ _ hr h) none 0
  · intro r l h
    obtain ⟨hr, h⟩ := hget _ _ h
    obtain ⟨b, es, clock, h1, h2, h3, h4⟩ := (S.maps _ _ h).at_
    have hs := σ'.cut_same H.length none 0
    exact ⟨b, es, clock, hs.map _ _ hr h1, h2, h3, h4.cut hs (hbel _ _ hr h)⟩

/-- All new rows are left out but one. -/
theorem Sim.truncKeep (S0 : Sim base w0 σ H w) (S : Sim base w0 σ' H' w') (hp : PrefOk H H') {r ver st off n : Nat} {cells : List AV} (hr : H.length ≤ r) (hrow : H'[r]? = some (.row cells ver st false))
    (hb : ∀ v ∈ (cells.drop off).take n, Bel H.length v) {d : Int} {m : Nat} (hf : σ'.fam (σ'.canon r) = some (r, d, m)) :
    Sim base w0 (σ'.cut H.length (some (r, σ'.canon r, d + off, m)) ((cells.drop off).take n).length) (H'.take H.length ++ [.row ((cells.drop off).take n) 0 n false]) w' := by
  have hbel : ∀ r o, r < H.length → H'[r]? = some o → ObjBel H.length o := fun r o hr ho => (hp.2 r o hr ho).elim (fun h => S0.objBel h) id
  have hlen : (H'.take H.length).length = H.length := by rw [List.length_take]; exact Nat.min_eq_left hp.1
  have hget : ∀ q o, (H'.take H.length)[q]? = some o → q < H.length ∧ H'[q]? = some o := by
    intro r o h
    rcases Nat.lt_or_ge r H.length with hr | hr
    · rw [List.getElem?_take_of_lt hr] at h; exact ⟨hr, h⟩
    · rw [List.getElem?_eq_none (by omega)] at h; cases h
  have hs := σ'.cut_same H.length (some (r, σ'.canon r, d + off, m)) ((cells.drop off).take n).length
  have R := S.rows _ _ _ _ _ hrow
  have hfamN : ∀ b d' n', (σ'.cut H.length (some (r, σ'.canon r, d + off, m)) ((cells.drop off).take n).length).fam b = some (H.length, d', n') → b = σ'.canon r ∧ d' = d + off ∧ n' = m := by
    intro b d' n' h
    simp only [Inj.cut] at h
    split at h
    · split at h
      · cases h; omega
      · split at h
        · rename_i e; cases h; exact ⟨e, rfl, rfl⟩
        · cases h
    · cases h
  have hfN : (σ'.cut H.length (some (r, σ'.canon r, d + off, m)) ((cells.drop off).take n).length).fam (σ'.canon r) = some (H.length, d + off, m) := by
    simp only [Inj.cut, hf]
    rw [if_neg (by omega)]
    simp
  have hcells : ∀ (p : Nat) (v : AV), ((cells.drop off).take n)[p]? = some v → CellAt (σ'.cut H.length (some (r, σ'.canon r, d + off, m)) ((cells.drop off).take n).length) w' (σ'.canon r) (d + off + p) v := by
    intro p v hp
    have hv := List.mem_of_getElem? hp
    have hp' : cells[off + p]? = some v := by
      rcases Nat.lt_or_ge p n with h1 | h1
      · rw [List.getElem?_take_of_lt h1, List.getElem?_drop] at hp; exact hp
      · rw [List.getElem?_eq_none (by simp; omega)] at hp; cases hp
    obtain ⟨d', n', hf', hc⟩ := R.new
    rw [hf] at hf'; cases hf'
    rcases hc _ _ hp' with h1 | ⟨q, c, h1, h2, h3⟩
    · exact .inl h1
    · exact .inr ⟨q, c, by push_cast at h1; omega, h2, h3.cut hs (hb v hv)⟩
  refine ⟨S.below, S.size, ?_, ?_, ?_, ?_, fun r g c h => by
    obtain ⟨hr, h⟩ := hget _ _ (gv_push h)
    obtain ⟨k1, C, e, fz, k2, k3⟩ := S.gvars _ _ _ h
    exact ⟨k1, C, e, fz, k2, k3.cut hs (hbel _ _ hr h)⟩, fun r s pe L h => by
    obtain ⟨hr, h⟩ := hget _ _ (loop_push h)
    exact (S.loops _ _ _ _ h).cut hr hs rfl (hbel _ _ hr h), S.oths, cut_minj S _ _ _⟩
  · intro b r' d' n' h
    rw [List.length_append, hlen]
    simp only [Inj.cut] at h
    split at h
    · rename_i r1 d1 n1 hf1
      split at h
      · rename_i hlt; cases h; exact ⟨by simp; omega, (S.lt _ _ _ _ hf1).2⟩
      · split at h
        · cases h; exact ⟨by simp, (S.lt _ _ _ _ hf1).2⟩
        · cases h
    · cases h
  · intro r' b h
    rw [List.length_append, hlen]
    simp only [Inj.cut] at h
    split at h
    · rename_i hlt; exact ⟨by simp; omega, (S.mlt _ _ h).2⟩
    · cases h
  · intro r' c1 v1 s1 o1 h
    rcases Nat.lt_or_ge r' H.length with hlt | hge
    · rw [List.getElem?_append_left (by omega)] at h
      obtain ⟨hr', h⟩ := hget _ _ h
      exact (S.rows _ _ _ _ _ h).cut hr' (hbel _ _ hr' h) _ _
    · rw [List.getElem?_append_right (by omega), hlen] at h
      have hr0 : r' = H.length := by
        rcases Nat.lt_or_ge (r' - H.length) 1 with h1 | h1
        · omega
        · rw [List.getElem?_eq_none (by simpa using h1)] at h; cases h
      subst hr0
      simp only [Nat.sub_self, List.getElem?_cons_zero, Option.some.injEq, AObj.row.injEq] at h
      obtain ⟨rfl, rfl, rfl, rfl⟩ := h
      refine ⟨by simp [Inj.cut], by simp [Inj.cut], ?_, ?_⟩
      · have hcan : (σ'.cut H.length (some (r, σ'.canon r, d + off, m)) ((cells.drop off).take n).length).canon H.length = σ'.canon r := by simp [Inj.cut]
        rw [hcan]
        exact ⟨_, _, hfN, hcells⟩
      · intro b d' n' h
        obtain ⟨rfl, rfl, rfl⟩ := hfamN _ _ _ h
        obtain ⟨g1, g2, _⟩ := R.all _ _ _ hf
        exact ⟨g1, g2, fun p v _ hv => hcells p v hv⟩
  · intro r' l h
    rcases Nat.lt_or_ge r' H.length with hlt | hge
    · rw [List.getElem?_append_left (by omega)] at h
      obtain ⟨hr', h⟩ := hget _ _ h
      obtain ⟨b, es, clock, h1, h2, h3, h4⟩ := (S.maps _ _ h).at_
      exact ⟨b, es, clock, hs.map _ _ hr' h1, h2, h3, h4.cut hs (hbel _ _ hr' h)⟩
    · rw [List.getElem?_append_right (by omega), hlen] at h
      rcases Nat.lt_or_ge (r' - H.length) 1 with h1 | h1
      · have : r' - H.length = 0 := by omega
        rw [this] at h; simp at h
      · rw [List.getElem?_eq_none (by simpa using h1)] at h; cases h

/-- A slice over a new row that is all that is kept. -/
def finSlice (N : Nat) (H' : AH) : AV → Option (AV × AObj)
  | .slice (some r) off len ver sz full =>
    if N ≤ r then
      match H'[r]? with
      | some (.row cells ver' _ false) =>
        if ver' = ver ∧ off + len * sz ≤ cells.length ∧ ((cells.drop off).take (len * sz)).all (belB N 4) = true then
          some (.slice (some N) 0 len 0 sz full, .row ((cells.drop off).take (len * sz)) 0 (len * sz) false)
        else none
      | _ => none
    else none
  | _ => none

def finList (N : Nat) (H' : AH) : List AV → Option (List AV × Option AObj)
  | [] => some ([], none)
  | v :: vs =>
    if belB N 4 v then (finList N H' vs).map fun (l, o) => (v :: l, o)
    else match finSlice N H' v with
      | some (v', o) => if vs.all (belB N 4) then some (v' :: vs, some o) else none
      | none => none

def finish (N : Nat) (H' : AH) (v : AV) : AV × AH :=
  if belB N 4 v then (v, H'.take N) else
  match v with
  | .tuple vs => match finList N H' vs with
    | some (vs', some o) => (.tuple vs', H'.take N ++ [o])
    | _ => (v, H')
  | v => match finSlice N H' v with
    | some (v', o) => (v', H'.take N ++ [o])
    | none => (v, H')

theorem finSlice_sound (S0 : Sim base w0 σ H w) (hl : σ.le σ') (S : Sim base w0 σ' H' w') (hp : PrefOk H H') {v v' : AV} {o : AObj} {c : Value} (h : finSlice H.length H' v = some (v', o)) (hv : RelV σ' v c) :
    ∃ σ2, σ.le σ2 ∧ σ'.same H.length σ2 ∧ Sim base w0 σ2 (H'.take H.length ++ [o]) w' ∧ RelV σ2 v' c := by
  unfold finSlice at h
  split at h
  case h_2 => cases h
  rename_i r off len ver sz full
  split at h
  case isFalse => cases h
  rename_i hr
  split at h
  case h_2 => cases h
  rename_i cells ver' st hrow
  split at h
  case isFalse => cases h
  rename_i hc
  obtain ⟨hver, hlen, hb⟩ := hc
  cases h
  have R := S.rows _ _ _ _ _ hrow
  obtain ⟨d, m, hf, _⟩ := R.new
  have hbel : ∀ v ∈ (cells.drop off).take (len * sz), Bel H.length v := fun v hv => .of_belB 4 v (by simp only [List.all_eq_true] at hb; exact hb v hv)
  have T := S0.truncKeep S hp hr hrow hbel hf
  refine ⟨_, le_cut S0 hl _ _, σ'.cut_same _ _ _, T, ?_⟩
  cases hv with
  | slice hf1 hv1 hc1 hl1 ho1 hfl hfin1 =>
    rename_i b o n cap sp d1
    have hbc : b = σ'.canon r := hc1 (by rw [R.ver]; exact hver.symm)
    subst hbc
    rw [hf] at hf1; cases hf1
    refine .slice (n := m) (d := d + off) ?_ (by simp [Inj.cut]) (fun _ => by simp [Inj.cut]) hl1 (fun hcap => ?_) hfl (fun _ => by
      have : len * sz ≤ cap * sz := Nat.mul_le_mul_right _ hl1
      simp only [Inj.cut, Nat.lt_irrefl, if_false, List.length_take]
      omega)
    · simp only [Inj.cut, hf]
      rw [if_neg (by omega)]
      simp
    · obtain ⟨g1, g2, g3⟩ := ho1 hcap
      exact ⟨by omega, g2, g3⟩

theorem finList_sound (S0 : Sim base w0 σ H w) (hl : σ.le σ') (S : Sim base w0 σ' H' w') (hp : PrefOk H H') : ∀ {vs vs' : List AV} {o : AObj} {cs : List Value}, finList H.length H' vs = some (vs', some o) → RelVs σ' vs cs →
    ∃ σ2, σ.le σ2 ∧ σ'.same H.length σ2 ∧ Sim base w0 σ2 (H'.take H.length ++ [o]) w' ∧ RelVs σ2 vs' cs
  | [], _, _, _, h, _ => by simp [finList] at h
  | v :: vs, vs', o, _, h, .cons (c := c) (cs := cs) h1 h2 => by
    simp only [finList] at h
    split at h
    · rename_i hb
      obtain ⟨⟨l, o'⟩, hf, he⟩ := Option.map_eq_some_iff.1 h
      cases he
      obtain ⟨σ2, g1, g2, g3, g4⟩ := finList_sound S0 hl S hp hf h2
      exact ⟨σ2, g1, g2, g3, .cons (h1.cut g2 (.of_belB 4 v hb)) g4⟩
    · split at h
      case h_2 => cases h
      rename_i v' o' hf
      split at h
      case isFalse => cases h
      rename_i hb
      cases h
      obtain ⟨σ2, g1, g2, g3, g4⟩ := finSlice_sound S0 hl S hp hf h1
      exact ⟨σ2, g1, g2, g3, .cons g4 (h2.cut g2 (Bels.of_all (fun v hv => .of_belB 4 v hv) hb))⟩

theorem finish_sound (S0 : Sim base w0 σ H w) (hl : σ.le σ') (S : Sim base w0 σ' H' w') (hp : PrefOk H H') {v : AV} {c : Value} (hv : RelV σ' v c) :
    ∃ σ2, σ.le σ2 ∧ Sim base w0 σ2 (finish H.length H' v).2 w' ∧ RelV σ2 (finish H.length H' v).1 c := by
  unfold finish
  split
  · rename_i hb
    exact ⟨_, le_cut S0 hl none 0, S0.trunc S hp, hv.cut (σ'.cut_same _ _ _) (.of_belB 4 v hb)⟩
  · split
    · rename_i vs _
      split
      · rename_i vs' o hf
        cases hv with
        | tuple hvs =>
          obtain ⟨σ2, g1, _, g3, g4⟩ := finList_sound S0 hl S hp hf hvs
          exact ⟨σ2, g1, g3, .tuple g4⟩
      · exact ⟨σ', hl, S, hv⟩
    · split
      · rename_i v' o hf
        obtain ⟨σ2, g1, _, g3, g4⟩ := finSlice_sound S0 hl S hp hf hv
        exact ⟨σ2, g1, g3, g4⟩
      · exact ⟨σ', hl, S, hv⟩

theorem AC_fin {P : Program} {f : FuncId} {args : List AV} {Q : AV → AH → Prop} (h : AC P f args H fun v H' => PrefOk H H' ∧ Q (finish H.length H' v).1 (finish H.length H' v).2) : AC P f args H Q := by
  intro base w0 σ w cargs S hr
  refine (h base w0 σ w cargs S hr).mono ?_
  rintro en w' ⟨c, σ', v, H', rfl, h2, h3, h4, h5, h6⟩
  obtain ⟨σ2, g1, g2, g3⟩ := finish_sound S h2 h3 h5 h4
  exact ⟨c, σ2, _, _, rfl, g1, g2, g3, h6⟩

/-! ### Functions -/
def argsEnv : Nat → List AV → Env
  | _, [] => []
  | k, v :: vs => (k, v) :: argsEnv (k + 1) vs

theorem eget_argsEnv : ∀ (vs : List AV) (k t : Nat), eget (argsEnv k vs) t = if t < k then .undef else (vs[t - k]?).getD .undef
  | [], k, t => by simp [argsEnv, eget]
  | v :: vs, k, t => by
    simp only [argsEnv, eget, eget_argsEnv vs (k + 1) t]
    by_cases h1 : k = t
    · subst h1; simp
    · rw [if_neg h1]
      by_cases h2 : t < k
      · rw [if_pos h2, if_pos (by omega)]
      · rw [if_neg h2, if_neg (by omega), show t - k = (t - (k + 1)) + 1 by omega]
        simp

def aRes1 (P : Program) (e : Env) (H : AH) : ResultVar → Option AV
  | .tmp t => some (eget e t)
  | .cell a t => aRead P (oval e) H (.load t (.tmp a))

def aResList (P : Program) (e : Env) (H : AH) : List ResultVar → Option (List AV)
  | [] => some []
  | r :: rs => (aRes1 P e H r).bind fun v => (aResList P e H rs).map (v :: ·)

def aResults (P : Program) (fn : Func) (e : Env) (H : AH) : Option AV :=
  (aResList P e H fn.results.toList).map fun | [v] => v | vs => .tuple vs

def resVar (tmps : Array Value) : ResultVar → Sem Value
  | .tmp t => pure (tmps.getD t undef)
  | .cell b t => do loadVar t (← asAddr (tmps.getD b undef))

theorem results_eq (fn : Func) (tmps : Array Value) : results fn tmps = (do let vs ← fn.results.mapM (resVar tmps); pure (if h : vs.size = 1 then vs[0] else .tuple vs)) := by
  unfold results
  have : (fun x : ResultVar => match x with | .tmp t => (pure (tmps.getD t undef) : Sem Value) | .cell a t => do loadVar t (← asAddr (tmps.getD a undef))) = resVar tmps := by
    funext x; cases x <;> rfl
  rw [← this]
  congr 2

theorem aResList_sound {P : Program} {nt : Nat} {e : Env} {a : Act} (S : Sim base w0 σ H w) (hr : ERel σ nt e a) : ∀ {rs : List ResultVar} {vs : List AV}, aResList P e H rs = some vs →
    ∃ cs, RelVs σ vs cs ∧ (rs.mapM (resVar a.tmps)).run P w = .ok cs w
  | [], vs, h => by simp [aResList] at h; subst h; exact ⟨[], .nil, by simp⟩
  | r :: rs, vs, h => by
    simp only [aResList, Option.bind_eq_some_iff, Option.map_eq_some_iff] at h
    obtain ⟨v, h1, l, h2, rfl⟩ := h
    obtain ⟨cs, g1, g2⟩ := aResList_sound S hr h2
    cases r with
    | tmp t =>
      simp only [aRes1, Option.some.injEq] at h1
      subst h1
      exact ⟨_, .cons (hr.2.2 t) g1, by simp [List.mapM_cons, resVar, g2]⟩
    | cell b t =>
      simp only [aRes1] at h1
      obtain ⟨c, k1, k2⟩ := aRead_sound (o := { (default : Oper) with op := .load t (.tmp b) }) (oval_rel hr) S h1
      refine ⟨c :: cs, .cons k1 g1, ?_⟩
      have hb := hr.2.2 b
      have hptr : ∃ ad, a.tmps.getD b undef = .pointer (some ad) := by
        unfold aRead at h1
        simp only [oval] at h1
        split at h1
        case h_3 => cases h1
        all_goals
          rename_i hv
          rw [hv] at hb
          generalize a.tmps.getD b undef = x at hb ⊢
          cases hb
          exact ⟨_, rfl⟩
      obtain ⟨ad, had⟩ := hptr
      have hl : (loadVar t ad).run P w = .ok c w := by
        simp only [execOp, Act.eval, had, Instr.loadAt, Instr.sureAddr, Sem.run_bind, Sem.run_pure, Result.andThen_ok] at k2
        cases hx : (loadVar t ad).run P w with
        | ok u w1 => rw [hx] at k2; simp at k2; obtain ⟨rfl, rfl⟩ := k2; rfl
        | halt q w1 => rw [hx] at k2; simp at k2
      simp [List.mapM_cons, resVar, had, asAddr, hl, g2]

/-! ### Blocks that are no rows -/
/-- The same, of other blocks that are no rows. -/
def Inj.woth (σ : Inj) (f : Nat → Option Bool) : Inj := { σ with oth := f }
mutual
theorem RelV.woth {σ : Inj} {f : Nat → Option Bool} : ∀ {v : AV} {c : Value}, RelV σ v c → RelV (σ.woth f) v c
  | _, _, .undef v => .undef v
  | _, _, .bool b => .bool b
  | _, _, .int k n => .int k n
  | _, _, .str s => .str s
  | _, _, .nilptr => .nilptr
  | _, _, .ptr hf ho hv hc => .ptr hf ho hv hc
  | _, _, .nilslice => .nilslice
  | _, _, .slice hf hv hc hl ho hfull hfin => .slice hf hv hc hl ho hfull hfin
  | _, _, .nilmap => .nilmap
  | _, _, .map hf => .map hf
  | _, _, .nilfunc => .nilfunc
  | _, _, .func fn h1 h2 => .func fn (RelVs.woth h1) (RelVs.woth h2)
  | _, _, .niliface => .niliface
  | _, _, .iface t h1 => .iface t (RelV.woth h1)
  | _, _, .agg h1 => .agg (RelVs.woth h1)
  | _, _, .tuple h1 => .tuple (RelVs.woth h1)
  | _, _, .gptr g off => .gptr g off
  | _, _, .clip hf hv hc ho => .clip hf hv hc ho
  | _, _, .yld hf => .yld hf
theorem RelVs.woth {σ : Inj} {f : Nat → Option Bool} : ∀ {vs : List AV} {cs : List Value}, RelVs σ vs cs → RelVs (σ.woth f) vs cs
  | _, _, .nil => .nil
  | _, _, .cons h1 h2 => .cons (RelV.woth h1) (RelVs.woth h2)
end
theorem RelEs.woth {σ : Inj} {f : Nat → Option Bool} : ∀ {l : List (AV × AV)} {es : List MapEntry}, RelEs σ l es → RelEs (σ.woth f) l es
  | [], [], h => h
  | _ :: _, _ :: _, h => ⟨h.1.woth, h.2.1.woth, RelEs.woth h.2.2⟩
theorem CellAt.put {b o' : Nat} {o : Int} {v : AV} {f : Nat → Option Bool} {x : Obj} (h : CellAt σ w b o v) (hb : b ≠ o') : CellAt (σ.woth f) (w.putObj o' x) b o v := by
  rcases h with h | ⟨k, c, h1, h2, h3⟩
  · exact .inl h
  · exact .inr ⟨k, c, h1, (World.cell?_of_block (w := w) (World.putObj_heap_other hb)).trans h2, h3.woth⟩
theorem Sim.putObj (S : Sim base w0 σ H w) {b : Nat} {o o' : Obj} (hb : base ≤ b) (ho : w.heap[b]? = some o) (hc : o.isCells = false) {H' : AH} {f : Nat → Option Bool} (hlen : H'.length = H.length)
    (hrows : ∀ (r : Nat) (c : List AV) (v s : Nat) (ro : Bool), H'[r]? = some (AObj.row c v s ro) → H[r]? = some (AObj.row c v s ro)) (hmaps : ∀ (r : Nat) (l : List (AV × AV)), H'[r]? = some (AObj.map l) → H[r]? = some (AObj.map l) ∧ σ.mapAt r ≠ some b)
    (hgv : ∀ (r g : Nat) (c : List AV), H'[r]? = some (AObj.gvar g c) → H[r]? = some (AObj.gvar g c))
    (hloops : ∀ (r : Nat) (s : LoopState) (pe : Ex) (L : LR), H'[r]? = some (.loop s pe L) → LoopOk base (σ.woth f) (w.putObj b o') r s pe L)
    (hoths : ∀ k x, f k = some x → base ≤ k ∧ OthAt (w.putObj b o') k x) : Sim base w0 (σ.woth f) H' (w.putObj b o') := by
  have hne : ∀ {k : Nat} {c : Array Value} {e : TypeId} {fz : Nat × Nat}, w.heap[k]? = some (.cells c e fz) → k ≠ b := by
    rintro k c e fz hk rfl
    rw [ho] at hk; cases hk; cases hc
  refine ⟨S.below.trans ⟨rfl, rfl, rfl, by simp, fun k hk => World.putObj_heap_other (by omega)⟩, by rw [World.putObj_size]; exact S.size, fun k r d n h => ?_, fun r k h => ?_, fun r c v s ro h => ?_, fun r l h => ?_, fun r g c h => ?_, hloops, hoths, S.minj⟩
  · rw [World.putObj_size, hlen]; exact S.lt k r d n h
  · rw [World.putObj_size, hlen]; exact S.mlt r k h
  · have R := S.rows r c v s ro (hrows r c v s ro h)
    refine ⟨R.ver, R.fin, ?_, fun k d n hf => ?_⟩
    · obtain ⟨d, n, h1, h2⟩ := R.new
      obtain ⟨-, ⟨c1, e1, f1, g1, -, -⟩, -⟩ := R.all _ _ _ h1
      exact ⟨d, n, h1, fun p u hp => (h2 p u hp).put (hne g1)⟩
    · obtain ⟨g0, ⟨c1, e1, f1, g1, g2, g3⟩, g4⟩ := R.all k d n hf
      exact ⟨g0, ⟨c1, e1, f1, by rw [World.putObj_heap_other (hne g1)]; exact g1, g2, g3⟩, fun p u hp hu => (g4 p u hp hu).put (hne g1)⟩
  · obtain ⟨h1, h2⟩ := hmaps r l h
    obtain ⟨k, es, clock, g1, g2, g3, g4⟩ := (S.maps r l h1).at_
    exact ⟨k, es, clock, g1, g2, by rw [World.putObj_heap_other (fun e => h2 (by rw [← e]; exact g1))]; exact g3, g4.woth⟩
  · obtain ⟨h1, C, e, fz, h2, h3⟩ := S.gvars r g c (hgv r g c h)
    exact ⟨h1, C, e, fz, h2, h3.woth⟩
theorem OthAt.put_other {w : World} {b k : Nat} {x : Bool} {o : Obj} (h : OthAt w k x) (hk : k ≠ b) : OthAt (w.putObj b o) k x := by
  cases x with
  | false => exact (World.putObj_heap_other hk).trans h
  | true => obtain ⟨R, h⟩ := h; exact ⟨R, (World.putObj_heap_other hk).trans h⟩
/-- The block of a loop's deferred calls, of which there are none, is shut. -/
theorem Sim.shut (S : Sim base w0 σ H w) {D : Nat} (hD : σ.oth D = some false) : Sim base w0 (σ.woth fun b => if b = D then none else σ.oth b) H (w.putObj D (.deferred none)) := by
  obtain ⟨hb, ho⟩ := S.oths D false hD
  have ho : w.heap[D]? = some (.deferred (some [])) := ho
  refine S.putObj hb ho rfl rfl (fun _ _ _ _ _ h => h) (fun r l h => ⟨h, fun e => ?_⟩) (fun _ _ _ h => h) (fun r s pe L h => ?_) (fun k x hk => ?_)
  · obtain ⟨k, es, clock, g1, -, g3, -⟩ := (S.maps r l h).at_
    rw [e] at g1; cases g1
    rw [ho] at g3; cases g3
  · obtain ⟨k, R, h1, h2, h3, h4, h5, h6, h7, h8, h9, h10, h11⟩ := (S.loops r s pe L h).at_
    have hne : k ≠ D := by rintro rfl; rw [ho] at h3; cases h3
    refine ⟨k, R, h1, h2, ?_, h4, h5, h6, h7, h8, h9, fun t => (h10 t).woth, ?_⟩
    · rw [World.putObj_heap_other hne]
      exact h3
    · simp only [Inj.woth]
      rw [if_neg hne]; exact h11
  · split at hk
    · cases hk
    · rename_i hne
      obtain ⟨g1, g2⟩ := S.oths k x hk
      exact ⟨g1, g2.put_other hne⟩

theorem leaves_marks {P : Program} {fn : Func} {R : Ending → World → Prop} {nt : Nat} {e : Env} {a : Act} (hr : ∀ (σ1 : Inj) (w1 : World), σ.le σ1 → Sim base w0 σ1 H w1 → ERel σ1 nt e a → ∃ v, (results fn a.tmps).run P w1 = .ok v w1 ∧ R (.returned v) w1) :
    ∀ (new : List Nat) (σ1 : Inj) (w1 : World), new.Nodup → (∀ D ∈ new, σ1.oth D = some false ∧ σ.oth D = none) → σ.le σ1 → Sim base w0 σ1 H w1 → ERel σ1 nt e a → LeavesInM (fc none) 0 P fn a.tmps R (new.map markOf) .returning w1
  | [], σ1, w1, _, _, hl, S1, hE => hr σ1 w1 hl S1 hE
  | D :: new, σ1, w1, hnd, hm, hl, S1, hE => by
    obtain ⟨h1, h2⟩ := hm D (by simp)
    have ho : w1.heap[D]? = some (.deferred (some [])) := (S1.oths D false h1).2
    rw [List.nodup_cons] at hnd
    refine ⟨by simp, .inl ⟨D, _, rfl, run_takeDeferred ho, ?_⟩⟩
    refine leaves_marks hr new _ _ hnd.2 (fun D' hD' => ?_) ?_ (S1.shut h1) ⟨hE.1, hE.2.1, fun t => (hE.2.2 t).woth⟩
    · have hne : D' ≠ D := fun e => hnd.1 (e ▸ hD')
      simp only [Inj.woth]
      rw [if_neg hne]
      exact hm D' (by simp [hD'])
    · refine ⟨hl.fam, hl.fin, hl.map, fun b k hk => ?_⟩
      simp only [Inj.woth]
      split
      · rename_i e; subst e; rw [h2] at hk; cases hk
      · exact hl.oth b k hk

theorem AC_of_body {P : Program} {f : FuncId} {fn : Func} {c : Code} {args : List AV} {nt : Nat} {Q : AV → AH → Prop} (hf : P.funcs[f]? = some fn) (hb : fn.body = some c) (hnt : nt = max args.length fn.ntmps)
    (h : AW P nt c (argsEnv 0 args) H fun x e' H' => (x = .normal ∨ x = .ret) ∧ ∃ v, aResults P fn e' H' = some v ∧ Q v H') : AC P f args H Q := by
  intro base w0 σ w cargs S hr
  have hlen := hr.length
  refine (callsIn_wide (n := 0)).1 (callsIn_of_wp_marks (F := fc none) hf hb trivial ?_)
  have hE : ERel σ nt (argsEnv 0 args) { tmps := cargs ++ Array.replicate (fn.ntmps - cargs.size) undef, defers := [] } := by
    simp only [Array.length_toList] at hlen
    refine ⟨by simp; omega, trivial, fun t => ?_⟩
    rw [eget_argsEnv]
    simp only [Nat.not_lt_zero, if_false, Nat.sub_zero]
    cases hv : args[t]? with
    | none => exact .undef _
    | some v =>
      obtain ⟨c1, h1, h2⟩ := hr.get hv
      rw [Array.getElem?_toList] at h1
      have : (cargs ++ Array.replicate (fn.ntmps - cargs.size) undef)[t]? = some c1 := by
        have hlt : t < cargs.size := by
          rcases Nat.lt_or_ge t cargs.size with h3 | h3
          · exact h3
          · rw [Array.getElem?_eq_none h3] at h1; cases h1
        rw [Array.getElem?_append_left hlt]; exact h1
      rw [Array.getD_eq_getD_getElem?, this]
      exact h2
  refine wpIn_mono (h none base w0 σ w _ (fun _ h => by cases h) S hE) ?_
  rintro ex a' w' ⟨x, σ', e', H', rfl, h2, h3, h4, ⟨new, hd, hnd, hnew⟩, hx, v, hv, hq⟩
  rw [List.append_nil] at hd
  have key : LeavesInM (fc none) 0 P fn a'.tmps (fun en w' => ∃ c σ' v H', en = .returned c ∧ σ.le σ' ∧ Sim base w0 σ' H' w' ∧ RelV σ' v c ∧ Q v H') a'.defers .returning w' := by
    rw [hd]
    refine leaves_marks (σ := σ) (fun σ1 w1 hl1 S1 hE1 => ?_) new σ' w' hnd hnew h2 h3 h4
    obtain ⟨vs, hvs, hv'⟩ := Option.map_eq_some_iff.1 hv
    obtain ⟨cs, g1, g2⟩ := aResList_sound (P := P) S1 hE1 hvs
    have hres : ∃ c, RelV σ1 v c ∧ (results fn a'.tmps).run P w1 = .ok c w1 := by
      have hm : (results fn a'.tmps).run P w1 = .ok (if h : cs.toArray.size = 1 then cs.toArray[0] else .tuple cs.toArray) w1 := by
        rw [results_eq, Array.mapM_eq_mapM_toList]
        simp only [Sem.run_bind, Sem.run_map, g2, Result.andThen_ok, Sem.run_pure]
      refine ⟨_, ?_, hm⟩
      have hl := g1.length
      cases g1 with
      | nil => simp only [] at hv'; subst hv'; exact .tuple .nil
      | cons k1 k2 =>
        cases k2 with
        | nil => simp only [] at hv'; subst hv'; exact k1
        | cons k3 k4 => simp only [] at hv'; subst hv'; exact .tuple (.cons k1 (.cons k3 k4))
    obtain ⟨c1, r1, r2⟩ := hres
    exact ⟨c1, r2, c1, σ1, v, H', rfl, hl1, S1, r1, hq⟩
  rcases hx with rfl | rfl
  · exact key
  · exact key
end
end Go.Proofs.Ytjfmiohgkcjdnaa.AX
