/- A plain reading of runs: loops by what they vary; rows that one knows. -/
import Derived.Test.YtjfmiohgkcjdnaaAxW
namespace Go.Proofs.Ytjfmiohgkcjdnaa.AX
open Go Go.RowKit

def esets : Env → List Nat → List AV → Env
  | e, t :: ts, v :: vs => esets (eset e t v) ts vs
  | e, _, _ => e
@[simp] theorem esets_cons (e : Env) (t : Nat) (ts : List Nat) (v : AV) (vs : List AV) : esets e (t :: ts) (v :: vs) = esets (eset e t v) ts vs := rfl
@[simp] theorem esets_nil (e : Env) (vs : List AV) : esets e [] vs = e := by cases vs <;> rfl

section
variable {P : Program} {nt : Nat} {e : Env} {H : AH}
theorem AWL_mono {Q Q' : Ex → Env → AH → Prop} (hq : ∀ x e H, Q x e H → Q' x e H) : ∀ {cs : List Code} {e : Env} {H : AH}, AWL P nt cs e H Q → AWL P nt cs e H Q'
  | [], _, _, h => hq _ _ _ h
  | c :: cs, e, H, h => by
    refine AWL_cons ((AWL_uncons h).mono fun x e' H' hx => ?_)
    cases x with
    | normal => exact AWL_mono hq hx
    | exit i => exact hq _ _ _ hx
    | goto i => exact hq _ _ _ hx
    | ret => exact hq _ _ _ hx
/-- A loop, by the slots that it varies. -/
theorem L_loopV {c : Code} {cs : List Code} {Q : Ex → Env → AH → Prop} (ts : List Nat) (I : Nat → List AV → AH → Prop) (n0 : Nat) (vs0 : List AV) (he : esets e ts vs0 = e) (h0 : I n0 vs0 H)
    (round : ∀ n vs H, I n vs H → AWL P nt (flat c) (esets e ts vs) H fun x e' H' => match x with | .normal => ∃ n' vs', n' < n ∧ e' = esets e ts vs' ∧ I n' vs' H' | x => More P nt cs Q x e' H') : AWL P nt (.loop c :: cs) e H Q := by
  refine L_loop (fun n e1 H1 => ∃ vs, e1 = esets e ts vs ∧ I n vs H1) n0 ⟨vs0, he.symm, h0⟩ ?_
  rintro n _ H1 ⟨vs, rfl, hI⟩
  refine AWL_mono (fun x e' H' hx => ?_) (round n vs H1 hI)
  cases x with
  | normal => obtain ⟨n', vs', h1, h2, h3⟩ := hx; exact ⟨n', h1, vs', h2, h3⟩
  | exit i => exact hx
  | goto i => exact hx
  | ret => exact hx
end

/-! ### Rows at the heap's end -/
section
variable {H T : AH} {c : List AV} {v s p : Nat} {ro : Bool}
@[simp] theorem known_int (k : IntKind) (n : Int) : known (some (.int k n)) = some (.int k n) := rfl
@[simp] theorem known_bool (b : Bool) : known (some (.bool b)) = some (.bool b) := rfl
theorem ld_last : ld (H ++ [.row c v s ro]) H.length p v = known c[p]? := by simp [ld]
theorem ld_lt {r ver : Nat} {x : AV} (h : ld H r p ver = some x) : r < H.length := by
  unfold ld at h
  split at h
  · rename_i hr; exact (List.getElem?_eq_some_iff.1 hr).1
  · cases h
theorem ld_app {r ver : Nat} (h : r < H.length) : ld (H ++ T) r p ver = ld H r p ver := by
  simp only [ld, List.getElem?_append_left h]
theorem ld_app' {r ver : Nat} {x : AV} (h : ld H r p ver = some x) : ld (H ++ T) r p ver = some x := by rw [ld_app (ld_lt h), h]
theorem Ls.app {u : AV} {l : List Int} (h : Ls H u l) (T : AH) : Ls (H ++ T) u l := by
  obtain ⟨r, off, ver, sz, full, rfl, hl⟩ := h
  refine ⟨r, off, ver, sz, full, rfl, fun i hi => ?_⟩
  obtain ⟨r', h1, h2, h3⟩ := hl i hi
  exact ⟨r', h1, h2, ld_app' h3⟩
theorem Ls.last (l : List Int) (f : Bool) : Ls (H ++ [.row (l.map (.int .i64)) v s ro]) (.slice (some H.length) 0 l.length v 1 f) l :=
  ⟨some H.length, 0, v, 1, f, rfl, fun i hi => ⟨H.length, rfl, rfl, by rw [ld_last]; simp [hi]⟩⟩
theorem Own.last (l : List AV) : Own (H ++ [.row l v s false]) (.slice (some H.length) 0 l.length v 1 false) l :=
  .inr ⟨H.length, v, s, rfl, by simp⟩

theorem st_last {x : AV} (hx : x.one = true) {y : AV} (hp : known c[p]? = some y) : st (H ++ [.row c v s false]) H.length p v x = some (H ++ [.row (c.set p x) v (min s p) false]) := by
  simp [st, hx, hp]

theorem store_sc {P : Program} {u : TypeId} (h : scal P u = true) {r off ver : Nat} {x : AV} (hx : x.one = true) : storeV P u H (.ptr r off ver) x = match st H r off ver x with | some H' => some (none, H') | none => none := by
  unfold scal at h
  split at h
  case h_2 => cases h
  rename_i d i h1 h2
  simp only [Bool.and_eq_true, beq_iff_eq] at h
  have ha : x.isU = false ∧ acells x = [x] := by cases x <;> simp_all [AV.one, AV.isU, acells]
  simp only [storeV, h2, ha.1, ha.2, List.length_singleton, h.2, Bool.false_or, bne_self_eq_false, Bool.false_eq_true, if_false, stn_cons, stn_nil]
  cases st H r off ver x <;> rfl
theorem store_last {P : Program} {u : TypeId} (h : scal P u = true) {x y : AV} (hx : x.one = true) (hp : known c[p]? = some y) :
    storeV P u (H ++ [.row c v s false]) (.ptr H.length p v) x = some (none, H ++ [.row (c.set p x) v (min s p) false]) := by
  rw [store_sc h hx, st_last hx hp]

/-- make. -/
def makeV (P : Program) (t : TypeId) (H : AH) (l c : AV) : Option (Option AV × AH) :=
  match P.underlying t, l, c with
    | some (.slice e), .int .i64 l, .int .i64 c =>
      match tiOf P e with
      | some I =>
        if 0 ≤ l ∧ l ≤ c ∧ c ≤ 16777216 ∧ I.bytes ≤ 4096 ∧ 0 < I.size then
          some (some (.slice (some H.length) 0 l.toNat 0 I.size false), H ++ [.row ((List.range (l.toNat * I.size)).map fun i => (I.zero[i % I.zero.length]?).getD .undef) 0 0 false])
        else none
      | none => none
    | _, _, _ => none
@[simp] theorem x_makeSlice {P : Program} {ρ : Operand → AV} (t : TypeId) (x y : Operand) : execN P ρ H (.makeSlice t x y) = makeV P t H (ρ x) (ρ y) := rfl
def elZ (P : Program) (t : TypeId) : Option AV := match P.underlying t with
  | some (.slice e) => match tiOf P e with | some I => if I.size = 1 ∧ I.bytes ≤ 4096 then (match I.zero with | [z] => some z | _ => none) else none | none => none
  | _ => none
theorem make_z {P : Program} {t : TypeId} {z : AV} (h : elZ P t = some z) {n : Nat} (hn : n ≤ 16777216) : makeV P t H (.int .i64 n) (.int .i64 n) = some (some (.slice (some H.length) 0 n 0 1 false), H ++ [.row (List.replicate n z) 0 0 false]) := by
  unfold elZ at h
  split at h
  case h_2 => cases h
  rename_i e he
  split at h
  case h_2 => cases h
  rename_i I hI
  split at h
  case isFalse => cases h
  rename_i hc
  split at h
  case h_2 => cases h
  rename_i z' hz
  cases h
  have : (List.range n).map (fun i => (([z] : List AV)[i % 1]?).getD .undef) = List.replicate n z := by
    rw [List.eq_replicate_iff]
    refine ⟨by simp, fun b hb => ?_⟩
    obtain ⟨i, -, rfl⟩ := List.mem_map.1 hb
    simp [Nat.mod_one]
  simp only [makeV, he, hI, hz, hc.1]
  rw [if_pos ⟨by omega, Int.le_refl _, by omega, hc.2, by omega⟩]
  simp [this]

/-- Which function a method's name is. -/
def invF (P : Program) (t : TypeId) (name : String) : Option FuncId := match P.info? t, P.underlying t with
      | some i, some d =>
        match i.methods.find? (·.name == name) with
        | some m =>
          match m.path.toList, m.func with
          | [], some (g, p) => if okFn P g && (p == isPtrD d) then some g else none
          | _, _ => none
        | none => none
      | _, _ => none
def invS (P : Program) (name : String) (v : AV) (as : List AV) : Option (FuncId × List AV) := match v with
  | .iface t v => match invF P t name with | some g => some (g, v :: as) | none => none
  | _ => none
@[simp] theorem opcall_inv {P : Program} {ρ : Operand → AV} {x : Operand} {name : String} {as : Array Operand} {ts : Array TypeId} : opCall P ρ (.call ⟨.invoke x name, as, ts⟩) = invS P name (ρ x) (as.toList.map ρ) := by
  simp only [opCall, invS]
  cases hx : ρ x <;> try rfl
  rename_i t v
  simp only [invF]
  cases P.info? t <;> cases P.underlying t <;> try rfl
  rename_i i d
  simp only
  cases i.methods.find? (·.name == name) with
  | none => rfl
  | some m =>
    simp only
    cases m.path.toList with
    | nil =>
      cases m.func with
      | none => rfl
      | some g =>
        obtain ⟨g, p⟩ := g
        simp only
        by_cases hc : (okFn P g && (p == isPtrD d)) = true <;> simp [hc]
    | cons a l => rfl
theorem invS_some {P : Program} {name : String} {t : TypeId} {v : AV} {as : List AV} {g : FuncId} (h : invF P t name = some g) : invS P name (.iface t v) as = some (g, v :: as) := by simp [invS, h]

/-- All rows of H are in H', as they were. -/
def Ext (H H' : AH) : Prop := H.length ≤ H'.length ∧ ∀ j, j < H.length → H'[j]? = H[j]?
theorem Ext.refl (H : AH) : Ext H H := ⟨Nat.le_refl _, fun _ _ => rfl⟩
theorem Ext.trans {A B C : AH} (h : Ext A B) (k : Ext B C) : Ext A C := ⟨Nat.le_trans h.1 k.1, fun j hj => by rw [k.2 j (by have := h.1; omega), h.2 j hj]⟩
theorem Ext.push (H T : AH) : Ext H (H ++ T) := ⟨by simp, fun j hj => List.getElem?_append_left hj⟩
theorem Ext.set {H1 : AH} {r : Nat} (o : AObj) (h : Ext H H1) (hr : H.length ≤ r) : Ext H (H1.set r o) := ⟨by simpa using h.1, fun j hj => by rw [List.getElem?_set_ne (by omega)]; exact h.2 j hj⟩
theorem Ext.row {H1 : AH} (h : Ext H H1) {r : Nat} {o : AObj} (hr : H[r]? = some o) : H1[r]? = some o := by rw [h.2 r (List.getElem?_eq_some_iff.1 hr).1]; exact hr
theorem Ext.ld {H1 : AH} (h : Ext H H1) {r ver : Nat} {x : AV} (hx : ld H r p ver = some x) : AX.ld H1 r p ver = some x := by
  have := h.2 r (ld_lt hx)
  unfold AX.ld at hx ⊢
  rw [this]; exact hx
theorem Ext.app {A B : AH} (h : Ext A B) : ∃ T, B = A ++ T := by
  refine ⟨B.drop A.length, ?_⟩
  have : B.take A.length = A := by
    apply List.ext_getElem?
    intro j
    rcases Nat.lt_or_ge j A.length with hj | hj
    · rw [List.getElem?_take_of_lt hj, h.2 j hj]
    · rw [List.getElem?_eq_none (by simp; omega), List.getElem?_eq_none hj]
  rw [← this, List.length_take, Nat.min_eq_left h.1]
  rw [show (B.take A.length) ++ B.drop A.length = B from List.take_append_drop _ _]
theorem gfind_app : ∀ {H T : AH} {g : Nat} {c : List AV}, gfind H g = some c → gfind (H ++ T) g = some c
  | .gvar g' c' :: H, T, g, c, h => by
    simp only [gfind, List.cons_append] at h ⊢
    split at h
    · rename_i e; rw [if_pos e]; exact h
    · rename_i e; rw [if_neg e]; exact gfind_app h
  | .row _ _ _ _ :: H, T, g, c, h => by simp only [gfind, List.cons_append] at h ⊢; exact gfind_app h
  | .map _ :: H, T, g, c, h => by simp only [gfind, List.cons_append] at h ⊢; exact gfind_app h
  | .loop _ _ _ :: H, T, g, c, h => by simp only [gfind, List.cons_append] at h ⊢; exact gfind_app h
theorem Ext.gv {A B : AH} (h : Ext A B) {g : Nat} {c : List AV} (hg : gfind A g = some c) : gfind B g = some c := by
  obtain ⟨T, rfl⟩ := h.app
  exact gfind_app hg
theorem HasG.ext {A B : AH} {gs : List (Nat × List AV)} (h : HasG gs A) (hE : Ext A B) : HasG gs B := fun x hx => ⟨hE.gv (h x hx).1, (h x hx).2⟩
theorem endOk_ext {A B : AH} (h : Ext A B) {r e : Nat} (he : endOk A r e = true) : endOk B r e = true := by
  unfold endOk at he ⊢
  split at he
  · rename_i hr; rw [h.row hr]; exact he
  · cases he
theorem Ls.ext {H1 : AH} {u : AV} {l : List Int} (h : Ls H u l) (hE : Ext H H1) : Ls H1 u l := by
  obtain ⟨r, off, ver, sz, full, rfl, hl⟩ := h
  refine ⟨r, off, ver, sz, full, rfl, fun i hi => ?_⟩
  obtain ⟨r', h1, h2, h3⟩ := hl i hi
  exact ⟨r', h1, h2, hE.ld h3⟩
theorem ld_row {r : Nat} (hr : H[r]? = some (.row c v s ro)) : ld H r p v = known c[p]? := by simp [ld, hr]
theorem store_row {P : Program} {u : TypeId} (h : scal P u = true) {r : Nat} {x y : AV} (hx : x.one = true) (hr : H[r]? = some (.row c v s false)) (hp : known c[p]? = some y) :
    storeV P u H (.ptr r p v) x = some (none, H.set r (.row (c.set p x) v (min s p) false)) := by
  rw [store_sc h hx]
  simp [st, hr, hx, hp]
theorem get_set {r : Nat} {o o' : AObj} (hr : H[r]? = some o) : (H.set r o')[r]? = some o' := by
  have := (List.getElem?_eq_some_iff.1 hr).1
  simp [this]
theorem Ls.row {r : Nat} {l : List Int} (hr : H[r]? = some (.row (l.map (.int .i64)) v s ro)) (f : Bool) : Ls H (.slice (some r) 0 l.length v 1 f) l :=
  ⟨some r, 0, v, 1, f, rfl, fun i hi => ⟨r, rfl, rfl, by rw [ld_row hr]; simp [hi]⟩⟩

/-- A part of a slice. -/
theorem slice_sl {P : Program} {t : TypeId} {n : Nat} (h : slSz P t = some n) (r : Option Nat) (off len ver : Nat) (full : Bool) (lo hi : Option AV) : aSlice P t (.slice r off len ver n full) lo hi none =
    (aBounds len lo hi none).map fun (l, h, _) => .slice r (off + l * n) (h - l) ver n (full && h == len) := by
  unfold slSz at h
  unfold aSlice
  split at h
  · rename_i e he
    rw [he]
    cases hi : P.info? e with
    | none => rw [hi] at h; cases h
    | some ie => rw [hi] at h; simp at h; simp [h, hi]
  · cases h
theorem Ls.sub {u : AV} {l : List Int} (h : Ls H u l) : ∃ r off ver sz full, u = .slice r off l.length ver sz full ∧ (l ≠ [] → sz = 1) ∧ ∀ a b full', a ≤ b → b ≤ l.length → Ls H (.slice r (off + a) (b - a) ver sz full') ((l.drop a).take (b - a)) := by
  obtain ⟨r, off, ver, sz, full, rfl, hl⟩ := h
  refine ⟨r, off, ver, sz, full, rfl, fun hne => ?_, fun a b full' hab hb => ⟨r, off + a, ver, sz, full', by simp; omega, fun i hi => ?_⟩⟩
  · obtain ⟨r', -, h2, -⟩ := hl 0 (by cases l <;> simp_all)
    exact h2
  · simp at hi
    obtain ⟨r', h1, h2, h3⟩ := hl (a + i) (by omega)
    refine ⟨r', h1, h2, ?_⟩
    rw [Nat.add_assoc, h3]
    simp
end
end Go.Proofs.Ytjfmiohgkcjdnaa.AX
