/- A plain reading of runs: operations that read or write memory. -/
import Derived.Test.YtojblooaiojmcaaAxE
namespace Go.Proofs.Ytojblooaiojmcaa.AX
open Go Go.RowKit

/-- The operations that look at memory and leave it alone. -/
def aRead (P : Program) (ρ : Operand → AV) (H : AH) : Op → Option AV
  | .load t x =>
    match P.underlying t, P.info? t, ρ x with
    | some d, some i, .ptr r off ver => if isAggD d then (ldn H r ver i.size off).map .agg else ld H r off ver
    | _, _, _ => none
  | .slice t x lo hi mx =>   -- of an array behind a pointer
    match P.underlying t, ρ x with
    | some (.array n e), .ptr r off ver =>
      match P.info? e with
      | some ie =>
        if 0 < n ∧ 0 < ie.size ∧ (ld H r (off + n * ie.size - 1) ver).isSome then
          (aBounds n (lo.map ρ) (hi.map ρ) (mx.map ρ)).map fun (l, h, _) => .slice (some r) (off + l * ie.size) (h - l) ver ie.size false
        else none
      | none => none
    | _, _ => none
  | _ => none

/-- The cells that an argument of append or copy yields: their number of elements, and the cells. -/
def aSrc (P : Program) (H : AH) (t : TypeId) (size : Nat) (x : AV) : Option (Nat × List AV) :=
  match P.underlying t, x with
  | some (.slice _), .slice none _ 0 _ _ _ => some (0, [])
  | some (.slice _), .slice (some r) off len ver sz _ => if sz = size ∧ 0 < len then ((ldn H r ver (len * sz) off).map fun vs => (len, vs)) else if len = 0 then some (0, []) else none
  | some .string, .str s => if size = 1 then some (s.length, s.map fun b => .int .u8 b.toNat) else none
  | _, _ => none

def aAppend (P : Program) (H : AH) (t tx : TypeId) (s x : AV) : Option (AV × AH) :=
  match P.underlying t with
  | some (.slice e) =>
    match tiOf P e with
    | some I =>
      if 0 < I.size ∧ I.bytes ≤ 4096 then
        (aSrc P H tx I.size x).bind fun (n, vs) =>
          if vs.all AV.one && vs.length == n * I.size then
          match s with
          | .slice none _ 0 _ _ _ => if n = 0 then some (.slice none 0 0 0 1 false, H) else if n ≤ 16777216 then some (.slice (some H.length) 0 n 0 I.size false, H ++ [.row vs 0 0 false]) else none
          | .slice (some r) off len ver sz full =>
            if n = 0 then some (.slice (some r) off len ver sz full, H) else
            if sz = I.size ∧ len + n ≤ 16777216 then
              if full then (ldn H r ver (len * sz) off).map fun olds => (.slice (some H.length) 0 (len + n) 0 sz false, H ++ [.row (olds ++ vs) 0 0 false])
              else (grow H r off (len * sz) ver vs).map fun (H', v') => (.slice (some r) off (len + n) v' sz false, H')
            else none
          | _ => none
          else none
      else none
    | none => none
  | _ => none

/-- The operations that write or make memory. -/
def aWrite (P : Program) (ρ : Operand → AV) (H : AH) : Op → Option (Option AV × AH)
  | .store t x y =>
    match P.info? t, ρ x with
    | some i, .ptr r off ver => if (ρ y).isU || (acells (ρ y)).length != i.size then none else (stn H r ver (acells (ρ y)) off).map fun H' => (none, H')
    | _, _ => none
  | .alloc t => (tiOf P t).map fun I => (some (.ptr H.length 0 0), H ++ [.row I.zero 0 0 false])
  | .box _ x => if (ρ x).isU then none else some (some (.ptr H.length 0 0), H ++ [.row (acells (ρ x)) 0 0 false])
  | .buildSlice t len parts =>
    match P.underlying t with
    | some (.slice e) =>
      match tiOf P e with
      | some I =>
        if len * I.size ≤ 16777216 ∧ (len = 0 ∨ 0 < I.size) then
          (aFill (fun i => some (i * I.size, I.size)) ((List.range (len * I.size)).map fun i => (I.zero[i % I.zero.length]?).getD .undef) (parts.toList.map fun x => (x.1, ρ x.2))).map fun cells =>
            (some (.slice (some H.length) 0 len 0 I.size false), H ++ [.row cells 0 cells.length false])
        else none
      | none => none
    | _ => none
  | .makeSlice t l c =>
    match P.underlying t, ρ l, ρ c with
    | some (.slice e), .int .i64 l, .int .i64 c =>
      match tiOf P e with
      | some I =>
        if 0 ≤ l ∧ l ≤ c ∧ c ≤ 16777216 ∧ I.bytes ≤ 4096 ∧ 0 < I.size then
          some (some (.slice (some H.length) 0 l.toNat 0 I.size false), H ++ [.row ((List.range (l.toNat * I.size)).map fun i => (I.zero[i % I.zero.length]?).getD .undef) 0 0 false])
        else none
      | none => none
    | _, _, _ => none
  | .call { callee := .builtin .append, args, argTypes } =>
    match argTypes[0]?, argTypes[1]?, args[0]?, args[1]? with
    | some t, some tx, some s, some x => if argTypes.size = 2 ∧ args.size = 2 then (aAppend P H t tx (ρ s) (ρ x)).map fun (v, H') => (some v, H') else none
    | _, _, _, _ => none
  | _ => none

section
variable {P : Program} {base : Nat} {w0 w : World} {σ : Inj} {H : AH}

theorem aRead_sound {ρ : Operand → AV} {ρc : Operand → Value} (hρ : ∀ x, RelV σ (ρ x) (ρc x)) (S : Sim base w0 σ H w) {o : Oper} {v : AV} (h : aRead P ρ H o.op = some v) : ∃ c, RelV σ v c ∧ (execOp ρc o).run P w = .ok (.value c) w := by
  unfold aRead at h
  unfold execOp
  split at h <;> first | (cases h; done) | skip
  all_goals (rename_i heq; rw [heq]; simp only [])
  case h_1 t x =>
    have hx := hρ x
    split at h
    case h_2 => cases h
    rename_i d i r off ver hu hi hv
    rw [hv] at hx
    generalize ρc x = c at hx ⊢
    cases hx with
    | ptr hf ho hver hc =>
      rename_i b o n d'
      split at h
      · rename_i hd
        obtain ⟨vs, h1, rfl⟩ := Option.map_eq_some_iff.1 h
        obtain ⟨cs, h2, h3, h4⟩ := S.ldn h1 hf ho hc
        refine ⟨.agg cs.toArray, .agg (by simpa using h4), run_v ?_⟩
        exact run_loadAt_mid w b o t cs d h2 hu (by cases d <;> first | rfl | exact absurd hd (by simp [isAggD])) (by simp [hi, h3])
      · rename_i hd
        obtain ⟨_, c, h2, h3⟩ := S.ld h hf ho hc
        refine ⟨c, h3, run_v ?_⟩
        simp [Instr.loadAt, Instr.sureAddr, loadVar, run_isAgg hu, hd, h2]
  case h_2 t x lo hi mx =>
    have hx := hρ x
    have e1 : ∀ (o : Option Operand) v, o.map ρ = some v → ∃ c, o.map ρc = some c ∧ RelV σ v c := fun o v ho => by
      cases o with
      | none => simp at ho
      | some y => simp at ho; subst ho; exact ⟨_, rfl, hρ y⟩
    have e2 : ∀ (o : Option Operand), o.map ρ = none → o.map ρc = none := fun o ho => by cases o <;> simp_all
    split at h
    case h_2 => cases h
    rename_i n e r off ver hu hv
    rw [hv] at hx
    split at h
    case h_2 => cases h
    rename_i ie hie
    split at h
    case isFalse => cases h
    rename_i hcond
    obtain ⟨hn, hs, hl⟩ := hcond
    obtain ⟨last, hlast⟩ := Option.isSome_iff_exists.1 hl
    obtain ⟨⟨l, h', m⟩, hb, rfl⟩ := Option.map_eq_some_iff.1 h
    generalize ρc x = c at hx ⊢
    cases hx with
    | ptr hf ho hver hc =>
      rename_i b o k d
      have hmul : 0 < n * ie.size := Nat.mul_pos hn hs
      obtain ⟨_, cl, hcl, _⟩ := S.ld hlast (b := b) (o := o + n * ie.size - 1) hf (by omega) hc
      have hsz : o + n * ie.size ≤ k := by
        have hr : ∃ cells v s ro, H[r]? = some (.row cells v s ro) := by
          unfold AX.ld at hlast
          split at hlast
          case h_2 => cases hlast
          rename_i cells v s ro hr
          exact ⟨cells, v, s, ro, hr⟩
        obtain ⟨cells, v, s, ro, hr⟩ := hr
        obtain ⟨_, ⟨c0, e0, f0, g1, g2, _⟩, _⟩ := (S.rows _ _ _ _ _ hr).all b d k hf
        rw [cell_of g1] at hcl
        rcases Nat.lt_or_ge (o + n * ie.size - 1) c0.size with h1 | h1
        · omega
        · rw [Array.getElem?_eq_none h1] at hcl; cases hcl
      obtain ⟨g1, g2, m', g3, g4, _, _, g5⟩ := aBounds_sound (P := P) (isS := false) (cap := n) (Nat.le_refl _) hb (e1 lo) (e2 lo) (e1 hi) (e2 hi) (e1 mx) (e2 mx)
      refine ⟨.slice (some (if m' = l then ⟨b, o, none⟩ else (⟨b, o, none⟩ : Addr).add (l * ie.size))) (h' - l) (m' - l), ?_, run_v ?_⟩
      · show RelV σ (.slice (some r) (off + l * ie.size) (h' - l) ver ie.size false) _
        split
        · rename_i hml
          subst hml
          exact .slice hf hver hc (by omega) (fun hne => absurd (Nat.sub_self _) hne) (fun h => by cases h)
        · rw [add_plain]
          refine .slice hf hver hc (by omega) (fun _ => ⟨?_, ?_, rfl⟩) (fun h => by cases h)
          · push_cast; omega
          · have h1 : l * ie.size + (m' - l) * ie.size = m' * ie.size := by rw [← Nat.add_mul]; congr 1; omega
            have h2 : m' * ie.size ≤ n * ie.size := Nat.mul_le_mul_right _ g4
            omega
      · simp [Instr.sliceAt, run_underlying hu, Instr.sureAddr, g5, sizeOf, typeInfo, hie]
end
end Go.Proofs.Ytojblooaiojmcaa.AX
