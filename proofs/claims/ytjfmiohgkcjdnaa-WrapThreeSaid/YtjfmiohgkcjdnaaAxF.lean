/- A plain reading of runs: operations that read or write memory. -/
import Derived.Test.YtjfmiohgkcjdnaaAxE
namespace Go.Proofs.Ytjfmiohgkcjdnaa.AX
open Go Go.RowKit

/-- What a package's variable holds. -/
def gfind : AH → Nat → Option (List AV)
  | [], _ => none
  | .gvar g' cells :: H, g => if g' = g then some cells else gfind H g
  | _ :: H, g => gfind H g
theorem gfind_mem : ∀ {H : AH} {g : Nat} {cells : List AV}, gfind H g = some cells → ∃ r : Nat, H[r]? = some (AObj.gvar g cells)
  | .gvar g' c :: H, g, cells, h => by
    simp only [gfind] at h
    split at h
    · rename_i e; cases h; exact ⟨0, by simp [e]⟩
    · obtain ⟨r, hr⟩ := gfind_mem h; exact ⟨r + 1, by simpa using hr⟩
  | .row _ _ _ _ :: H, g, cells, h => by
    obtain ⟨r, hr⟩ := gfind_mem (H := H) (by simpa [gfind] using h); exact ⟨r + 1, by simpa using hr⟩
  | .map _ :: H, g, cells, h => by
    obtain ⟨r, hr⟩ := gfind_mem (H := H) (by simpa [gfind] using h); exact ⟨r + 1, by simpa using hr⟩
  | .loop _ _ _ :: H, g, cells, h => by
    obtain ⟨r, hr⟩ := gfind_mem (H := H) (by simpa [gfind] using h); exact ⟨r + 1, by simpa using hr⟩

/-- Nothing of row r lies behind place e. -/
def endOk (H : AH) (r e : Nat) : Bool := match H[r]? with
  | some (.row cells _ _ ro) => ro || decide (cells.length ≤ e)
  | _ => false

/-- A slice's parts. -/
def slParts : AV → Option (Nat × Nat × Nat × Nat × Nat)
  | .slice (some r) off len ver sz _ => some (r, off, len, ver, sz)
  | .clip r off len ver sz => some (r, off, len, ver, sz)
  | _ => none
def isNilSl : AV → Bool
  | .slice none _ _ _ _ _ => true
  | _ => false

/-- The operations that look at memory and leave it alone. -/
def aRead (P : Program) (ρ : Operand → AV) (H : AH) : Op → Option AV
  | .load t x =>
    match P.underlying t, P.info? t, ρ x with
    | some d, some i, .ptr r off ver => if isAggD d then (ldn H r ver i.size off).map .agg else ld H r off ver
    | some d, some i, .gptr g off => (gfind H g).bind fun cells => if isAggD d then (takeKnown i.size (cells.drop off)).map .agg else known cells[off]?
    | _, _, _ => none
  | .slice t x lo hi mx =>   -- of an array behind a pointer
    match P.underlying t, ρ x with
    | some (.array n e), .ptr r off ver =>
      match P.info? e with
      | some ie =>
        if 0 < n ∧ 0 < ie.size ∧ (ld H r (off + n * ie.size - 1) ver).isSome ∧ endOk H r (off + n * ie.size) = true ∧ mx.isNone = true then
          (aBounds n (lo.map ρ) (hi.map ρ) (mx.map ρ)).map fun (l, h, _) => .slice (some r) (off + l * ie.size) (h - l) ver ie.size false
        else none
      | none => none
    | some (.slice e), .slice (some r) off _ ver sz _ =>   -- beyond its length
      match P.info? e, H[r]? with
      | some ie, some (.row cells v _ false) => if v = ver ∧ ie.size = sz ∧ 0 < sz ∧ hi.isSome ∧ mx = none then
          (aBounds ((cells.length - off) / sz) (lo.map ρ) (hi.map ρ) none).map fun (l, h, _) => .slice (some r) (off + l * sz) (h - l) ver sz false
        else none
      | _, _ => none
    | _, _ => none
  | _ => none

/-- The cells that an argument of append or copy yields: their number of elements, and the cells. -/
def aSrc (P : Program) (H : AH) (t : TypeId) (size : Nat) (x : AV) : Option (Nat × List AV) :=
  match P.underlying t, x with
  | some (.slice _), .slice none _ 0 _ _ _ => some (0, [])
  | some (.slice _), .slice (some r) off len ver sz _ => if sz = size ∧ 0 < len then ((ldn H r ver (len * sz) off).map fun vs => (len, vs)) else if len = 0 then some (0, []) else none
  | some (.slice _), .clip r off len ver sz => if sz = size ∧ 0 < len then ((ldn H r ver (len * sz) off).map fun vs => (len, vs)) else if len = 0 then some (0, []) else none
  | some .string, .str s => if size = 1 then some (s.length, s.map fun b => .int .u8 b.toNat) else none
  | _, _ => none

/-- Appended where there is room for certain. -/
def inPlace (H : AH) (r off len n ver sz : Nat) (vs : List AV) : Option AH := match H[r]? with
  | some (.row cells v _ false) => if v = ver ∧ off + (len + n) * sz ≤ cells.length then stn H r ver vs (off + len * sz) else none
  | _ => none

def aAppend (P : Program) (H : AH) (t tx : TypeId) (s x : AV) : Option (AV × AH) :=
  match P.underlying t with
  | some (.slice e) =>
    match tiOf P e with
    | some I =>
      if 0 < I.size ∧ I.bytes ≤ 4096 then
        (aSrc P H tx I.size x).bind fun (n, vs) =>
          if vs.all AV.one && vs.length == n * I.size then
          match s with
          | .slice none _ 0 _ _ _ => if n = 0 then some (.slice none 0 0 0 1 false, H) else if n ≤ 16777216 then some (.slice (some H.length) 0 n 0 I.size false, H ++ [.row vs 0 0 false]) else none
          | .slice (some r) off len ver sz full =>
            if n = 0 then some (.slice (some r) off len ver sz full, H) else
            if sz = I.size ∧ len + n ≤ 16777216 then
              if full then (ldn H r ver (len * sz) off).map fun olds => (.slice (some H.length) 0 (len + n) 0 sz false, H ++ [.row (olds ++ vs) 0 0 false])
              else match inPlace H r off len n ver sz vs with
                | some H' => some (.slice (some r) off (len + n) ver sz false, H')
                | none => (grow H r off (len * sz) ver vs).map fun (H', v') => (.slice (some r) off (len + n) v' sz false, H')
            else none
          | .clip r off len ver sz =>
            if n = 0 then some (.clip r off len ver sz, H) else
            if sz = I.size ∧ len + n ≤ 16777216 then
              (ldn H r ver (len * sz) off).map fun olds => (.slice (some H.length) 0 (len + n) 0 sz false, H ++ [.row (olds ++ vs) 0 0 false])
            else none
          | _ => none
          else none
      else none
    | none => none
  | _ => none

def aCopy (P : Program) (H : AH) (t : TypeId) (d s : AV) : Option (AV × AH) :=
  match P.underlying t with
  | some (.slice e) =>
    match P.info? e with
    | some ie =>
      if isNilSl d && (isNilSl s || (slParts s).isSome) then some (.int .i64 0, H)
      else if isNilSl s && (slParts d).isSome then some (.int .i64 0, H)
      else match slParts d, slParts s with
        | some (r, off, len, ver, sz), some (r2, off2, len2, ver2, sz2) =>
          if min len2 len = 0 then some (.int .i64 0, H)
          else if sz = ie.size ∧ sz2 = ie.size then
            (ldn H r2 ver2 (min len2 len * ie.size) off2).bind fun vs => if vs.all AV.one then (stn H r ver vs off).map fun H' => (.int .i64 (min len2 len : Nat), H') else none
          else none
        | _, _ => none
    | none => none
  | _ => none

def aClear (P : Program) (H : AH) (t : TypeId) (x : AV) : Option AH :=
  match P.underlying t with
  | some (.slice e) =>
    match tiOf P e with
    | some I =>
      if isNilSl x then some H
      else match slParts x with
        | some (r, off, len, ver, sz) =>
          if len = 0 then some H
          else if sz = I.size ∧ 0 < sz then stn H r ver ((List.range (len * sz)).map fun i => (I.zero[i % I.zero.length]?).getD .undef) off
          else none
        | none => none
    | none => none
  | _ => none

/-- The operations that write or make memory. -/
def aWrite (P : Program) (ρ : Operand → AV) (H : AH) : Op → Option (Option AV × AH)
  | .store t x y =>
    match P.info? t, ρ x with
    | some i, .ptr r off ver => if (ρ y).isU || (acells (ρ y)).length != i.size then none else (stn H r ver (acells (ρ y)) off).map fun H' => (none, H')
    | _, _ => none
  | .alloc t => (tiOf P t).map fun I => (some (.ptr H.length 0 0), H ++ [.row I.zero 0 0 false])
  | .box _ x => if (ρ x).isU then none else some (some (.ptr H.length 0 0), H ++ [.row (acells (ρ x)) 0 0 false])
  | .buildSlice t len parts =>
    match P.underlying t with
    | some (.slice e) =>
      match tiOf P e with
      | some I =>
        if len * I.size ≤ 16777216 ∧ (len = 0 ∨ 0 < I.size) then
          (aFill (fun i => some (i * I.size, I.size)) ((List.range (len * I.size)).map fun i => (I.zero[i % I.zero.length]?).getD .undef) (parts.toList.map fun x => (x.1, ρ x.2))).map fun cells =>
            (some (.slice (some H.length) 0 len 0 I.size false), H ++ [.row cells 0 cells.length false])
        else none
      | none => none
    | _ => none
  | .makeSlice t l c =>
    match P.underlying t, ρ l, ρ c with
    | some (.slice e), .int .i64 l, .int .i64 c =>
      match tiOf P e with
      | some I =>
        if 0 ≤ l ∧ l ≤ c ∧ c ≤ 16777216 ∧ I.bytes ≤ 4096 ∧ 0 < I.size then
          some (some (.slice (some H.length) 0 l.toNat 0 I.size false), H ++ [.row ((List.range (l.toNat * I.size)).map fun i => (I.zero[i % I.zero.length]?).getD .undef) 0 0 false])
        else none
      | none => none
    | _, _, _ => none
  | .call { callee := .builtin .append, args, argTypes } =>
    match argTypes[0]?, argTypes[1]?, args[0]?, args[1]? with
    | some t, some tx, some s, some x => if argTypes.size = 2 ∧ args.size = 2 then (aAppend P H t tx (ρ s) (ρ x)).map fun (v, H') => (some v, H') else none
    | _, _, _, _ => none
  | .call { callee := .builtin .copy, args, argTypes } =>
    match argTypes[0]?, args[0]?, args[1]? with
    | some t, some d, some s => (aCopy P H t (ρ d) (ρ s)).map fun (v, H') => (some v, H')
    | _, _, _ => none
  | .call { callee := .builtin .clear, args, argTypes } =>
    match argTypes[0]?, args[0]? with
    | some t, some x => (aClear P H t (ρ x)).map fun H' => (some (.tuple []), H')
    | _, _ => none
  | _ => none

section
variable {P : Program} {base : Nat} {w0 w : World} {σ : Inj} {H : AH}

theorem takeKnown_range {σ : Inj} : ∀ {n : Nat} {l vs : List AV} {cs : List Value}, takeKnown n l = some vs → RelVs σ l cs → ∃ cs' : List Value, (∀ (j : Nat) (u : Value), cs'[j]? = some u → cs[j]? = some u) ∧ cs'.length = n ∧ RelVs σ vs cs' := by
  intro n
  induction n with
  | zero => intro l vs cs h _; simp [takeKnown] at h; subst h; exact ⟨[], by simp, rfl, .nil⟩
  | succ n ih =>
    intro l vs cs h hr
    cases hr with
    | nil => simp [takeKnown] at h
    | cons h1 h2 =>
      rename_i v c l' cs'
      rw [takeKnown_succ] at h
      simp only [List.getElem?_cons_zero, List.drop_succ_cons, List.drop_zero, Option.bind_eq_some_iff, Option.map_eq_some_iff] at h
      obtain ⟨u, hu, l2, hl, rfl⟩ := h
      obtain ⟨e, -⟩ := known_some hu
      cases e
      obtain ⟨cs2, g1, g2, g3⟩ := ih hl h2
      exact ⟨c :: cs2, fun j u hj => by cases j with
        | zero => simpa using hj
        | succ j => simpa using g1 j u (by simpa using hj), by simp [g2], .cons h1 g3⟩

theorem aRead_sound {ρ : Operand → AV} {ρc : Operand → Value} (hρ : ∀ x, RelV σ (ρ x) (ρc x)) (S : Sim base w0 σ H w) {o : Oper} {v : AV} (h : aRead P ρ H o.op = some v) : ∃ c, RelV σ v c ∧ (execOp ρc o).run P w = .ok (.value c) w := by
  unfold aRead at h
  unfold execOp
  split at h <;> first | (cases h; done) | skip
  all_goals (rename_i heq; rw [heq]; simp only [])
  case h_1 t x =>
    have hx := hρ x
    split at h
    case h_3 => cases h
    case h_2 d i g off hu hi hv =>
      rw [hv] at hx
      obtain ⟨cells, hg, h⟩ := Option.bind_eq_some_iff.1 h
      obtain ⟨r, hr⟩ := gfind_mem hg
      obtain ⟨hlt, C, e, fz, hw0, hrel⟩ := S.gvars _ _ _ hr
      have hw : w.heap[g]? = some (.cells C e fz) := by rw [S.below.block _ hlt]; exact hw0
      generalize ρc x = c at hx ⊢
      cases hx
      split at h
      · rename_i hd
        obtain ⟨vs, h1, rfl⟩ := Option.map_eq_some_iff.1 h
        obtain ⟨cs, h2, h3, h4⟩ := takeKnown_range h1 (hrel.drop off)
        refine ⟨.agg cs.toArray, .agg (by simpa using h4), run_v ?_⟩
        refine run_loadAt_mid w g off t cs d (fun j u hj => ?_) hu (by cases d <;> first | rfl | exact absurd hd (by simp [isAggD])) (by simp [hi, h3])
        rw [cell_of hw]
        have := h2 j u hj
        rw [List.getElem?_drop] at this
        simpa using this
      · rename_i hd
        obtain ⟨h1, -⟩ := known_some h
        obtain ⟨c, h2, h3⟩ := hrel.get h1
        refine ⟨c, h3, run_v ?_⟩
        have h2' : w.cell? ⟨g, off, none⟩ = some c := by rw [cell_of hw]; simpa using h2
        simp [Instr.loadAt, Instr.sureAddr, loadVar, run_isAgg hu, hd, h2']
    rename_i d i r off ver hu hi hv
    rw [hv] at hx
    generalize ρc x = c at hx ⊢
    cases hx with
    | ptr hf ho hver hc =>
      rename_i b o n d'
      split at h
      · rename_i hd
        obtain ⟨vs, h1, rfl⟩ := Option.map_eq_some_iff.1 h
        obtain ⟨cs, h2, h3, h4⟩ := S.ldn h1 hf ho hc
        refine ⟨.agg cs.toArray, .agg (by simpa using h4), run_v ?_⟩
        exact run_loadAt_mid w b o t cs d h2 hu (by cases d <;> first | rfl | exact absurd hd (by simp [isAggD])) (by simp [hi, h3])
      · rename_i hd
        obtain ⟨_, c, h2, h3⟩ := S.ld h hf ho hc
        refine ⟨c, h3, run_v ?_⟩
        simp [Instr.loadAt, Instr.sureAddr, loadVar, run_isAgg hu, hd, h2]
  case h_2 t x lo hi mx =>
    have hx := hρ x
    have e1 : ∀ (o : Option Operand) v, o.map ρ = some v → ∃ c, o.map ρc = some c ∧ RelV σ v c := fun o v ho => by
      cases o with
      | none => simp at ho
      | some y => simp at ho; subst ho; exact ⟨_, rfl, hρ y⟩
    have e2 : ∀ (o : Option Operand), o.map ρ = none → o.map ρc = none := fun o ho => by cases o <;> simp_all
    split at h
    case h_3 => cases h
    case h_2 e r off len ver sz full hu hv =>
      rw [hv] at hx
      split at h
      case h_2 => cases h
      rename_i ie cells v s hie hr
      split at h
      case isFalse => cases h
      rename_i hcond
      obtain ⟨hver, hsz, hpos, hhi, hmx⟩ := hcond
      subst hmx
      obtain ⟨⟨l, h', m⟩, hb, rfl⟩ := Option.map_eq_some_iff.1 h
      have R := S.rows _ _ _ _ _ hr
      generalize ρc x = c at hx ⊢
      cases hx with
      | slice hf hv' hc hl ho hfl hfin =>
        rename_i b o k cap sp d
        have hf1 := hfin (by rw [R.ver]; exact hver.symm)
        rw [R.fin] at hf1
        simp only [Bool.false_eq_true, if_false] at hf1
        have hq : (cells.length - off) / sz ≤ cap := by
          refine Nat.div_le_of_le_mul ?_
          rw [Nat.mul_comm]; omega
        obtain ⟨g1, g2, m', g3, g4, gm, gc, g5⟩ := aBounds_sound (P := P) (isS := true) (cap := cap) hq hb (e1 lo) (e2 lo) (e1 hi) (e2 hi) (mx' := none) (fun v h => by cases h) (fun _ => rfl)
        have hmc : m' = cap := gc rfl
        obtain ⟨hi0, rfl⟩ := Option.isSome_iff_exists.1 hhi
        have g5' : ∀ w, (Instr.sliceBounds true len cap (lo.map ρc) (some (ρc hi0)) none).run P w = .ok (l, h', m') w := fun w => by
          have := g5 w
          simp only [Option.map_some, Instr.sliceBounds] at this ⊢
          exact this
        refine ⟨.slice (some (if m' = l then ⟨b, o, sp⟩ else (⟨b, o, sp⟩ : Addr).add (l * ie.size))) (h' - l) (m' - l), ?_, run_v ?_⟩
        · show RelV σ (.slice (some r) (off + l * sz) (h' - l) ver sz false) _
          have hfin' : ver = σ.ver r → σ.fin r ≤ (off + l * sz) + (m' - l) * sz := by
            intro e
            have h0 := hfin e
            have h1 : l * sz + (m' - l) * sz = m' * sz := by rw [← Nat.add_mul]; congr 1; omega
            rw [← hmc] at h0
            omega
          by_cases hml : m' = l
          · rw [if_pos hml]
            subst hml
            exact .slice hf hv' hc (by omega) (fun hne => absurd (Nat.sub_self _) hne) (fun h => by cases h) hfin'
          · rw [if_neg hml]
            have hcap : cap ≠ 0 := by omega
            obtain ⟨ho1, ho2, rfl⟩ := ho hcap
            rw [hsz, add_plain]
            have h1 : l * sz + (m' - l) * sz = m' * sz := by rw [← Nat.add_mul]; congr 1; omega
            have h2 : m' * sz ≤ cap * sz := Nat.mul_le_mul_right _ g4
            exact .slice hf hv' hc (by omega) (fun _ => ⟨by push_cast; omega, by omega, rfl⟩) (fun h => by cases h) hfin'
        · simp only [Instr.sliceAt, Sem.run_bind, run_underlying hu, Result.andThen_ok, Instr.slice, Option.map_some, Option.map_none, g5', sizeOf, typeInfo, hie, Sem.run_pure, run_program]
          split <;> rfl
    rename_i n e r off ver hu hv
    rw [hv] at hx
    split at h
    case h_2 => cases h
    rename_i ie hie
    split at h
    case isFalse => cases h
    rename_i hcond
    obtain ⟨hn, hs, hl, hend, hmx⟩ := hcond
    obtain ⟨last, hlast⟩ := Option.isSome_iff_exists.1 hl
    obtain ⟨⟨l, h', m⟩, hb, rfl⟩ := Option.map_eq_some_iff.1 h
    generalize ρc x = c at hx ⊢
    cases hx with
    | ptr hf ho hver hc =>
      rename_i b o k d
      have hmul : 0 < n * ie.size := Nat.mul_pos hn hs
      obtain ⟨_, cl, hcl, _⟩ := S.ld hlast (b := b) (o := o + n * ie.size - 1) hf (by omega) hc
      have hsz : o + n * ie.size ≤ k := by
        have hr : ∃ cells v s ro, H[r]? = some (.row cells v s ro) := by
          unfold AX.ld at hlast
          split at hlast
          case h_2 => cases hlast
          rename_i cells v s ro hr
          exact ⟨cells, v, s, ro, hr⟩
        obtain ⟨cells, v, s, ro, hr⟩ := hr
        obtain ⟨_, ⟨c0, e0, f0, g1, g2, _⟩, _⟩ := (S.rows _ _ _ _ _ hr).all b d k hf
        rw [cell_of g1] at hcl
        rcases Nat.lt_or_ge (o + n * ie.size - 1) c0.size with h1 | h1
        · omega
        · rw [Array.getElem?_eq_none h1] at hcl; cases hcl
      obtain ⟨g1, g2, m', g3, g4, _, gmn, g5⟩ := aBounds_sound (P := P) (isS := false) (cap := n) (Nat.le_refl _) hb (e1 lo) (e2 lo) (e1 hi) (e2 hi) (e1 mx) (e2 mx)
      refine ⟨.slice (some (if m' = l then ⟨b, o, none⟩ else (⟨b, o, none⟩ : Addr).add (l * ie.size))) (h' - l) (m' - l), ?_, run_v ?_⟩
      · show RelV σ (.slice (some r) (off + l * ie.size) (h' - l) ver ie.size false) _
        have hmn : m' = n := gmn (by cases mx <;> first | rfl | (simp at hmx))
        have hfin' : ver = σ.ver r → σ.fin r ≤ (off + l * ie.size) + (m' - l) * ie.size := by
          intro _
          unfold endOk at hend
          split at hend
          case h_2 => cases hend
          rename_i cells v s ro hr
          rw [(S.rows _ _ _ _ _ hr).fin]
          have h1 : l * ie.size + (m' - l) * ie.size = m' * ie.size := by rw [← Nat.add_mul]; congr 1; omega
          rw [hmn] at h1
          cases ro with
          | true => simp
          | false => simp at hend ⊢; rw [hmn]; omega
        split
        · rename_i hml
          subst hml
          exact .slice hf hver hc (by omega) (fun hne => absurd (Nat.sub_self _) hne) (fun h => by cases h) hfin'
        · rw [add_plain]
          refine .slice hf hver hc (by omega) (fun _ => ⟨?_, ?_, rfl⟩) (fun h => by cases h) hfin'
          · push_cast; omega
          · have h1 : l * ie.size + (m' - l) * ie.size = m' * ie.size := by rw [← Nat.add_mul]; congr 1; omega
            have h2 : m' * ie.size ≤ n * ie.size := Nat.mul_le_mul_right _ g4
            omega
      · simp [Instr.sliceAt, run_underlying hu, Instr.sureAddr, g5, sizeOf, typeInfo, hie]
end
end Go.Proofs.Ytjfmiohgkcjdnaa.AX
