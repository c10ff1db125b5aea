/- A plain reading of runs: more operations that leave memory alone. -/
import Derived.Test.YtjfmiohgkcjdnaaAxC
import Derived.Great.BuildSlice
import Derived.ChangeKeysEq
import Derived.Laws.StructEq
namespace Go.Proofs.Ytjfmiohgkcjdnaa.AX
open Go Go.RowKit

def AV.isU : AV → Bool
  | .undef => true
  | _ => false

section
variable {P : Program} {σ : Inj}

theorem RelV.cells {v : AV} {c : Value} (h : RelV σ v c) (hu : v.isU = false) : RelVs σ (acells v) c.cells.toList := by
  cases h <;> first | (simp [AV.isU] at hu; done) | (simp only [acells, Value.cells]; first | assumption | exact .cons (by constructor <;> assumption) .nil | exact .cons (by constructor) .nil)

theorem RelVs.set : ∀ {vs : List AV} {cs : List Value} {i : Nat} {v : AV} {c : Value}, RelVs σ vs cs → RelV σ v c → RelVs σ (vs.set i v) (cs.set i c)
  | _, _, _, _, _, .nil, _ => .nil
  | _, _, 0, _, _, .cons _ h2, h => .cons h h2
  | _, _, _ + 1, _, _, .cons h1 h2, h => .cons h1 (RelVs.set h2 h)

theorem RelVs.fold (off : Nat) : ∀ {vs : List AV} {cs : List Value} (k : Nat), RelVs σ vs cs → ∀ {l : List AV} {C : Array Value}, RelVs σ l C.toList →
    RelVs σ ((vs.zipIdx k).foldl (fun cs (x : AV × Nat) => cs.set (off + x.2) x.1) l) (((cs.zipIdx k).foldl (fun (cs : Array Value) (x : Value × Nat) => cs.setIfInBounds (off + x.2) x.1) C).toList)
  | _, _, _, .nil, _, _, h => h
  | v :: vs, c :: cs, k, .cons h1 h2, l, C, h => by
    simp only [List.zipIdx_cons, List.foldl_cons]
    exact RelVs.fold off (k + 1) h2 (by rw [Array.toList_setIfInBounds]; exact h.set h1)

def aFill (place : Nat → Option (Nat × Nat)) (cells : List AV) : List (Nat × AV) → Option (List AV)
  | [] => some cells
  | (i, v) :: rest =>
    match place i with
    | none => none
    | some (off, size) =>
      if v.isU || (acells v).length != size || decide (off + (acells v).length > cells.length) then none
      else aFill place ((acells v).zipIdx.foldl (fun cs (x : AV × Nat) => cs.set (off + x.2) x.1) cells) rest

def RelPs (σ : Inj) : List (Nat × AV) → List (Nat × Value) → Prop
  | [], [] => True
  | (i, v) :: l, (j, c) :: l' => i = j ∧ RelV σ v c ∧ RelPs σ l l'
  | _, _ => False

theorem RelPs.of_map {ρ : Operand → AV} {ρc : Operand → Value} (h : ∀ x, RelV σ (ρ x) (ρc x)) : ∀ (l : List (Nat × Operand)), RelPs σ (l.map fun x => (x.1, ρ x.2)) (l.map fun x => (x.1, ρc x.2))
  | [] => trivial
  | (_i, x) :: l => ⟨rfl, h x, RelPs.of_map h l⟩

theorem aFill_sound {place : Nat → Option (Nat × Nat)} : ∀ {parts : List (Nat × AV)} {parts' : List (Nat × Value)} {cells cells' : List AV} {C : Array Value}, aFill place cells parts = some cells' → RelPs σ parts parts' → RelVs σ cells C.toList →
    ∃ C', Instr.fill place C parts' = some C' ∧ RelVs σ cells' C'.toList
  | [], [], cells, cells', C, h, _, hC => by simp [aFill] at h; subst h; exact ⟨C, rfl, hC⟩
  | [], _ :: _, _, _, _, _, h, _ => h.elim
  | _ :: _, [], _, _, _, _, h, _ => h.elim
  | (i, v) :: l, (j, c) :: l', cells, cells', C, h, hp, hC => by
    obtain ⟨rfl, hv, hl⟩ := hp
    simp only [aFill] at h
    cases hpl : place i with
    | none => simp [hpl] at h
    | some x =>
      obtain ⟨off, size⟩ := x
      simp only [hpl] at h
      split at h
      · cases h
      · rename_i hcond
        simp only [Bool.or_eq_true, bne_iff_ne, ne_eq, decide_eq_true_eq, not_or, Bool.not_eq_true, Decidable.not_not] at hcond
        obtain ⟨⟨hu, hsz⟩, hoff⟩ := hcond
        have hcs := hv.cells hu
        have hl1 := hcs.length
        have hl2 := hC.length
        simp only [Array.length_toList] at hl1 hl2
        obtain ⟨C', h1, h2⟩ := aFill_sound h hl (C := ((c.cells.zipIdx.foldl (fun cs (x : Value × Nat) => cs.setIfInBounds (off + x.2) x.1) C))) (by
          rw [← Array.foldl_toList, Array.toList_zipIdx]
          exact RelVs.fold off 0 hcs hC)
        refine ⟨C', ?_, h2⟩
        simp only [Instr.fill, hpl]
        rw [if_neg]
        · exact h1
        · simp; omega

def zeroOf (z : Value) : List AV := z.cells.toList.map (absV 2)
theorem relVs_zero (z : Value) : RelVs σ (zeroOf z) z.cells.toList := RelVs.of_map fun v _ => relV_absV σ 2 v

def aBuilt (P : Program) (t : TypeId) (parts : List (Nat × AV)) : Option (List AV) :=
  match P.info? t, P.underlying t with
  | some it, some (.array _ e) =>
    match it.zero, P.info? e with
    | some z, some ie => aFill (fun i => some (i * ie.size, ie.size)) (zeroOf z) parts
    | _, _ => none
  | some it, some (.struct fields) =>
    match it.zero, fields.toList.mapM (fun f => (P.info? f.type).map fun i => (f.offset, i.size)) with
    | some z, some places => aFill (places.toArray[·]?) (zeroOf z) parts
    | _, _ => none
  | _, _ => none

theorem aBuilt_sound {t : TypeId} {parts : List (Nat × AV)} {parts' : List (Nat × Value)} {cells : List AV} (h : aBuilt P t parts = some cells) (hp : RelPs σ parts parts') :
    ∃ C, P.built t parts' = some C ∧ RelVs σ cells C.toList := by
  unfold aBuilt at h
  unfold Program.built
  split at h
  case h_3 => cases h
  case h_1 it e h1 h2 =>
    simp only [h1, h2]
    split at h
    case h_2 => cases h
    rename_i z ie h3 h4
    simp only [h3, h4]
    exact aFill_sound h hp (relVs_zero z)
  case h_2 it fields h1 h2 =>
    simp only [h1, h2]
    split at h
    case h_2 => cases h
    rename_i z places h3 h4
    simp only [h3, h4]
    exact aFill_sound h hp (relVs_zero z)

/-- A part of a struct or an array. -/
def aPart (P : Program) (t : TypeId) (cs : List AV) (off : Nat) : Option AV :=
  match P.underlying t, P.info? t with
  | some d, some i => if isAggD d then some (.agg ((cs.drop off).take i.size)) else cs[off]?
  | _, _ => none

theorem RelVs.take : ∀ {vs : List AV} {cs : List Value} (n : Nat), RelVs σ vs cs → RelVs σ (vs.take n) (cs.take n)
  | _, _, 0, _ => by simpa using RelVs.nil
  | _, _, _ + 1, .nil => by simpa using RelVs.nil
  | _, _, n + 1, .cons h1 h2 => .cons h1 (RelVs.take n h2)
theorem RelVs.drop : ∀ {vs : List AV} {cs : List Value} (n : Nat), RelVs σ vs cs → RelVs σ (vs.drop n) (cs.drop n)
  | _, _, 0, h => h
  | _, _, _ + 1, .nil => by simpa using RelVs.nil
  | _, _, n + 1, .cons _ h2 => RelVs.drop n h2

theorem run_isAgg {t : TypeId} {d : TypeDesc} (h : P.underlying t = some d) (w : World) : (isAgg t).run P w = .ok (isAggD d) w := by
  unfold isAgg
  rw [Sem.run_bind, run_underlying h]
  cases d <;> rfl

theorem aPart_sound {t : TypeId} {vs : List AV} {cs : Array Value} {off : Nat} {v : AV} (h : aPart P t vs off = some v) (hc : RelVs σ vs cs.toList) :
    ∃ c, RelV σ v c ∧ ∀ w, (part t cs off).run P w = .ok c w := by
  unfold aPart at h
  split at h
  case h_2 => cases h
  rename_i d i h1 h2
  split at h
  · rename_i hd
    cases h
    refine ⟨.agg (cs.extract off (off + i.size)), .agg ?_, fun w => ?_⟩
    · rw [Array.toList_extract]
      have := (hc.drop off).take i.size
      simpa [List.extract_eq_take_drop] using this
    · simp [part, run_isAgg h1, hd, sizeOf, typeInfo, h2]
  · rename_i hd
    obtain ⟨c, h3, h4⟩ := hc.get h
    refine ⟨c, h4, fun w => ?_⟩
    have h3' : cs[off]? = some c := by rw [← h3]; simp
    simp [part, run_isAgg h1, hd, h3']

def aField (P : Program) (t : TypeId) (x : AV) (f : Nat) : Option AV :=
  match P.underlying t, x with
  | some (.struct fields), .agg cs => (fields[f]?).bind fun f => aPart P f.type cs f.offset
  | _, _ => none

def aFieldAddr (P : Program) (t : TypeId) (x : AV) (f : Nat) : Option AV :=
  match P.underlying t, x with
  | some (.struct fields), .ptr r off ver =>
    (fields[f]?).bind fun f => (P.info? f.type).bind fun i => if i.size = 0 then none else some (.ptr r (off + f.offset) ver)
  | some (.struct fields), .gptr g off =>
    (fields[f]?).bind fun f => (P.info? f.type).bind fun i => if i.size = 0 then none else some (.gptr g (off + f.offset))
  | _, _ => none

def aIndexAddr (P : Program) (t : TypeId) (x ix : AV) : Option AV :=
  match P.underlying t, x, ix with
  | some (.slice e), .slice (some r) off len ver sz _, .int _ i =>
    match P.info? e with
    | some ie => if ie.size = sz ∧ 0 ≤ i ∧ i < len then some (.ptr r (off + i.toNat * sz) ver) else none
    | none => none
  | some (.array n e), .ptr r off ver, .int _ i =>
    match P.info? e with
    | some ie => if 0 ≤ i ∧ i < n then some (.ptr r (off + i.toNat * ie.size) ver) else none
    | none => none
  | some (.array n e), .gptr g off, .int _ i =>
    match P.info? e with
    | some ie => if 0 ≤ i ∧ i < n then some (.gptr g (off + i.toNat * ie.size)) else none
    | none => none
  | some (.slice e), .clip r off len ver sz, .int _ i =>
    match P.info? e with
    | some ie => if ie.size = sz ∧ 0 ≤ i ∧ i < len then some (.ptr r (off + i.toNat * sz) ver) else none
    | none => none
  | _, _, _ => none

def aIndex (P : Program) (t : TypeId) (x ix : AV) : Option AV :=
  match P.underlying t, x, ix with
  | some (.array n e), .agg cs, .int _ i => if 0 ≤ i ∧ i < n then (P.info? e).bind fun ie => aPart P e cs (i.toNat * ie.size) else none
  | some .string, .str s, .int _ i => if 0 ≤ i then (s[i.toNat]?).map fun b => .int .u8 b.toNat else none
  | _, _, _ => none

def aBound (x : AV) (hi : Nat) : Option Nat :=
  match x with
  | .int _ i => if 0 ≤ i ∧ i ≤ hi then some i.toNat else none
  | _ => none

def aBounds (len : Nat) (lo hi mx : Option AV) : Option (Nat × Nat × Nat) :=
  (match mx with | some v => aBound v len | none => some len).bind fun m =>
  (match hi with | some v => aBound v m | none => if mx.isSome then none else some len).bind fun h =>
  (match lo with | some v => aBound v h | none => some 0).bind fun l => some (l, h, m)

def clipOf : Option Nat → Nat → Nat → Nat → Nat → AV
  | none, _, _, _, _ => .slice none 0 0 0 1 false
  | some r, off, len, ver, sz => .clip r off len ver sz

def aSlice (P : Program) (t : TypeId) (x : AV) (lo hi mx : Option AV) : Option AV :=
  match P.underlying t, x with
  | some .string, .str s => if mx.isSome then none else (aBounds s.length lo hi none).map fun (l, h, _) => .str ((s.drop l).take (h - l))
  | some (.slice e), .slice r off len ver sz full =>
    match P.info? e with
    | some ie => if ie.size = sz then (aBounds len lo hi mx).map fun (l, h, m) => if mx.isSome then (if h = m then clipOf r (off + l * sz) (h - l) ver sz else .undef) else .slice r (off + l * sz) (h - l) ver sz (full && h == len)
      else match r with
        | none => (aBounds len lo hi mx).map fun _ => .slice none 0 0 0 1 false
        | some _ => none
    | none => none
  | some (.slice e), .clip r off len ver sz =>
    match P.info? e with
    | some ie => if ie.size = sz then (aBounds len lo hi mx).map fun (l, h, m) => if h = (if mx.isSome then m else len) then .clip r (off + l * sz) (h - l) ver sz else .undef else none
    | none => none
  | _, _ => none

def aConv (P : Program) (src dst : TypeId) (x : AV) : Option AV :=
  match P.underlying src, P.underlying dst, x with
  | some _, some (.int k), .int _ n => some (.int k (k.wrap n))
  | some _, some .string, .int _ n => some (.str (Utf8.encode n).data.toList)
  | some _, some .string, .str s => some (.str s)
  | _, _, _ => none

def aUn (op : UnOp) (x : AV) : Option AV :=
  match op, x with
  | .neg, .int k n => some (.int k (k.wrap (0 - n)))
  | .xor, .int k n => some (.int k (k.wrap (BitVec.ofInt k.bits (if k.signed then -1 else k.max) ^^^ BitVec.ofInt k.bits n).toNat))
  | .not, .bool b => some (.bool !b)
  | _, _ => none

def aHolds (ok : Bool) (v : AV) : AV := if ok then .tuple [v, .bool true] else v
def aFails (P : Program) (t : TypeId) (ok : Bool) : Option AV := if ok then ((P.info? t).bind (·.zero)).map fun z => .tuple [absV 3 z, .bool false] else none
def TypeDesc.isIface : TypeDesc → Bool
  | .interface _ => true
  | _ => false
def aAssert (P : Program) (x : AV) (asserted : TypeId) (ok : Bool) : Option AV :=
  match P.underlying asserted, x with
  | some (.interface want), .iface t v =>
    match P.info? t with
    | some i => match Instr.missingMethod want i.methods with
      | none => some (aHolds ok (.iface t v))
      | some _ => aFails P asserted ok
    | none => none
  | some _, .niliface => aFails P asserted ok
  | some d, .iface t v => if TypeDesc.isIface d then none else if t = asserted then some (aHolds ok v) else aFails P asserted ok
  | _, _ => none

def aLen (P : Program) (t : TypeId) (x : AV) : Option AV :=
  match P.underlying t, x with
  | some .string, .str s => some (.int .i64 s.length)
  | some (.array n _), _ => some (.int .i64 n)
  | some (.slice _), .slice _ _ len _ _ _ => some (.int .i64 len)
  | some (.slice _), .clip _ _ len _ _ => some (.int .i64 len)
  | some (.map _ _), .nilmap => some (.int .i64 0)
  | some (.pointer a), _ => match P.underlying a with
    | some (.array n _) => some (.int .i64 n)
    | _ => none
  | _, _ => none

def aMinFrom : AV → List AV → Option AV
  | x, [] => some x
  | .int k n, .int _ m :: rest => aMinFrom (.int k (if m < n then m else n)) rest
  | _, _ => none
def aMaxFrom : AV → List AV → Option AV
  | x, [] => some x
  | .int k n, .int _ m :: rest => aMaxFrom (.int k (if n < m then m else n)) rest
  | _, _ => none
def aMin : List AV → Option AV
  | [] => none
  | x :: l => aMinFrom x l
def aMax : List AV → Option AV
  | [] => none
  | x :: l => aMaxFrom x l

def aNil (x : AV) : Option AV :=
  match x with
  | .ptr r o v => some (.ptr r o v)
  | .iface t v => some (.iface t v)
  | .func (.func f) a b => some (.func (.func f) a b)
  | _ => none

/-- Structs and arrays compared, part by part. -/
def eqAll : List (Option AV × Option AV × (AV → AV → Option Bool)) → Option Bool
  | [] => some true
  | (some a, some b, f) :: l => match f a b with
    | some true => eqAll l
    | some false => some false
    | none => none
  | _ :: _ => none
def eqV (P : Program) : Nat → TypeId → AV → AV → Option Bool
  | 0, _, _, _ => none
  | d + 1, t, x, y =>
    match P.underlying t, x, y with
    | some (.int _), .int k a, .int k' b => if k = k' then some (a == b) else none
    | some .bool, .bool a, .bool b => some (a == b)
    | some .string, .str a, .str b => some (a == b)
    | some (.struct fs), .agg xs, .agg ys => if P.stoodInHeld t || fs.toList.any (fun f => f.name == "_") then none else
        eqAll (fs.toList.map fun f => (aPart P f.type xs f.offset, aPart P f.type ys f.offset, eqV P d f.type))
    | some (.array n e), .agg xs, .agg ys => match P.info? e with
      | some ie => eqAll ((List.range n).map fun i => (aPart P e xs (i * ie.size), aPart P e ys (i * ie.size), eqV P d e))
      | none => none
    | _, _, _ => none
def aEqA (P : Program) (op : BinOp) (t : TypeId) (x y : AV) : Option AV :=
  match x, y with
  | .agg xs, .agg ys =>
    if P.eqGuardType P.depth t then none else
    match op with
    | .eql => (eqV P 4 t (.agg xs) (.agg ys)).map .bool
    | .neq => (eqV P 4 t (.agg xs) (.agg ys)).map fun b => .bool (!b)
    | _ => none
  | _, _ => none

theorem eqV_sound : ∀ (d D : Nat) {t : TypeId} {x y : AV} {a b : Value} {r : Bool}, eqV P d t x y = some r → RelV σ x a → RelV σ y b → ∀ w, (Op.equalIn (D + d) t a b).run P w = .ok r w
  | 0, _, _, _, _, _, _, _, h, _, _ => by simp [eqV] at h
  | d + 1, D, t, x, y, a, b, r, h, hx, hy => by
    intro w
    rw [show D + (d + 1) = (D + d) + 1 from rfl]
    unfold eqV at h
    split at h
    case h_6 => cases h
    case h_1 k0 k a' k' b' hu =>
      cases hx; cases hy
      split at h
      case isFalse => cases h
      rename_i hk
      subst hk
      cases h
      exact run_equalIn_int w _ t _ _ _ _ hu
    case h_2 a' b' hu =>
      cases hx; cases hy; cases h
      exact run_equalIn_bool' w _ t _ _ hu
    case h_3 a' b' hu =>
      cases hx with | str s1 => ?_
      cases hy with | str s2 => ?_
      cases h
      rw [run_equalIn_string w _ t _ _ hu]
      rw [ba_toList, ba_toList]
    case h_4 fs xs ys hu =>
      split at h
      · cases h
      rename_i hc
      simp only [Bool.or_eq_true, not_or, Bool.not_eq_true] at hc
      cases hx with | agg hxs => ?_
      cases hy with | agg hys => ?_
      rename_i ax ay
      have hfs : P.fieldsOf t = fs := by simp [Program.fieldsOf, hu]
      rw [run_equalIn_struct w (D + d) t ax ay (by rw [hfs]; exact hu) hc.1, hfs]
      have hn := hc.2
      clear hc hu hfs
      generalize fs.toList = l at h hn
      induction l with
      | nil => simp [eqAll] at h; subst h; simp [Op.eqFields]
      | cons f l ih =>
        simp only [List.any_cons, Bool.or_eq_false_iff, beq_eq_false_iff_ne, ne_eq] at hn
        simp only [List.map_cons] at h
        cases hp1 : aPart P f.type xs f.offset with
        | none => rw [hp1] at h; simp [eqAll] at h
        | some a1 =>
          cases hp2 : aPart P f.type ys f.offset with
          | none => rw [hp1, hp2] at h; simp [eqAll] at h
          | some b1 =>
            rw [hp1, hp2] at h
            simp only [eqAll] at h
            obtain ⟨c1, g1, g2⟩ := aPart_sound hp1 hxs
            obtain ⟨c2, g3, g4⟩ := aPart_sound hp2 hys
            cases he : eqV P d f.type a1 b1 with
            | none => rw [he] at h; simp at h
            | some q =>
              have hr := eqV_sound d D he g1 g3 w
              rw [he] at h
              simp only [Op.eqFields, hn.1, ne_eq, not_false_eq_true, if_true, Sem.run_bind, g2, g4, hr, Result.andThen_ok]
              cases q with
              | false => simp at h; subst h; simp
              | true => simp at h; simpa using ih h hn.2
    case h_5 n e xs ys hu =>
      split at h
      case h_2 => cases h
      rename_i ie hie
      cases hx with | agg hxs => ?_
      cases hy with | agg hys => ?_
      rename_i ax ay
      rw [run_equalIn_array w (D + d) ax ay hu hie]
      have hsz : P.cellsOf e = ie.size := by simp [Program.cellsOf, hie]
      rw [hsz]
      generalize List.range n = l at h ⊢
      induction l with
      | nil => simp [eqAll] at h; subst h; simp [Op.eqItems]
      | cons i l ih =>
        simp only [List.map_cons] at h
        cases hp1 : aPart P e xs (i * ie.size) with
        | none => rw [hp1] at h; simp [eqAll] at h
        | some a1 =>
          cases hp2 : aPart P e ys (i * ie.size) with
          | none => rw [hp1, hp2] at h; simp [eqAll] at h
          | some b1 =>
            rw [hp1, hp2] at h
            simp only [eqAll] at h
            obtain ⟨c1, g1, g2⟩ := aPart_sound hp1 hxs
            obtain ⟨c2, g3, g4⟩ := aPart_sound hp2 hys
            cases he : eqV P d e a1 b1 with
            | none => rw [he] at h; simp at h
            | some q =>
              have hr := eqV_sound d D he g1 g3 w
              rw [he] at h
              simp only [Op.eqItems, Sem.run_bind, g2, g4, hr, Result.andThen_ok]
              cases q with
              | false => simp at h; subst h; simp
              | true => simp at h; simpa using ih h

theorem aEqA_sound {op : BinOp} {t : TypeId} {x y v : AV} {a b : Value} {X Y : Operand} (h : aEqA P op t x y = some v) (hx : RelV σ x a) (hy : RelV σ y b) :
    ∃ c, RelV σ v c ∧ ∀ w, (do eqGuard op t X Y a b; binOp op t a b : Sem Value).run P w = .ok c w := by
  unfold aEqA at h
  split at h
  case h_2 => cases h
  rename_i xs ys
  split at h
  · cases h
  rename_i hg
  cases hx with | agg hxs => ?_
  cases hy with | agg hys => ?_
  rename_i ax ay
  have hop : op = .eql ∨ op = .neq := by cases op <;> simp at h ⊢
  have hrun : ∃ r, eqV P 4 t (.agg xs) (.agg ys) = some r ∧ v = .bool (if op = .eql then r else !r) := by
    rcases hop with rfl | rfl
    · obtain ⟨r, h1, h2⟩ := Option.map_eq_some_iff.1 h
      exact ⟨r, h1, by simp [h2]⟩
    · obtain ⟨r, h1, h2⟩ := Option.map_eq_some_iff.1 h
      exact ⟨r, h1, by simp [h2]⟩
  obtain ⟨r, hr, hv⟩ := hrun
  refine aCmp_eq (r := r) hop (fun w => ?_) (fun w => ?_) ?_ hv
  · have hg' : P.eqGuardType P.depth t = false := by simpa using hg
    rcases hop with rfl | rfl <;> simp [eqGuard, run_program, hg']
  · exact eqV_sound 4 9996 hr (.agg hxs) (.agg hys) w
  · intro op hop; rcases hop with rfl | rfl <;> rfl

/-- The operations that leave memory alone and do not look at it. -/
def aPure (P : Program) (ρ : Operand → AV) : Op → Option AV
  | .move x | .assign x => some (ρ x)
  | .pick c a b => match ρ c with | .bool t => some (if t then ρ a else ρ b) | _ => none
  | .build t parts => (aBuilt P t (parts.toList.map fun x => (x.1, ρ x.2))).map .agg
  | .nilCheck x => aNil (ρ x)
  | .binOp op t x y _ => match aBin op (ρ x) (ρ y) with
    | some v => some v
    | none => match aCmp P op t (litOp x || litOp y) (ρ x) (ρ y) with
      | some v => some v
      | none => aEqA P op t (ρ x) (ρ y)
  | .unOp op _ x => aUn op (ρ x)
  | .convert s d x => aConv P s d (ρ x)
  | .makeInterface t x => match P.underlying t with
    | some d => if TypeDesc.isIface d then none else some (.iface t (ρ x))
    | none => none
  | .makeFunc fn first captured => some (.func fn (first.toList.map ρ) (captured.toList.map ρ))
  | .slice t x lo hi mx => aSlice P t (ρ x) (lo.map ρ) (hi.map ρ) (mx.map ρ)
  | .fieldAddr s x f => aFieldAddr P s (ρ x) f
  | .field t x f => aField P t (ρ x) f
  | .indexAddr t x i => aIndexAddr P t (ρ x) (ρ i)
  | .index t x i => aIndex P t (ρ x) (ρ i)
  | .typeAssert x _ t ok => aAssert P (ρ x) t ok
  | .extract x i => match ρ x with | .tuple vs => vs[i]? | _ => none
  | .call { callee := .builtin .len, args, argTypes } => match argTypes[0]?, args[0]? with
    | some t, some x => aLen P t (ρ x)
    | _, _ => none
  | .call { callee := .builtin .min, args, .. } => aMin (args.toList.map ρ)
  | .call { callee := .builtin .max, args, .. } => aMax (args.toList.map ρ)
  | _ => none

theorem run_v {s : Sem Value} {c : Value} {w w' : World} (h : s.run P w = .ok c w') : (do pure (Next.value (← s)) : Sem Next).run P w = .ok (.value c) w' := by
  simp [h]

theorem add_plain (b o n : Nat) : (⟨b, o, none⟩ : Addr).add n = ⟨b, o + n, none⟩ := Addr.add_mid b o n

theorem aBounds_sound {isS : Bool} {len cap : Nat} (hlc : len ≤ cap) {lo hi mx : Option AV} {lo' hi' mx' : Option Value} {l h m : Nat} (hb : aBounds len lo hi mx = some (l, h, m))
    (h1 : ∀ v, lo = some v → ∃ c, lo' = some c ∧ RelV σ v c) (h1' : lo = none → lo' = none) (h2 : ∀ v, hi = some v → ∃ c, hi' = some c ∧ RelV σ v c) (h2' : hi = none → hi' = none)
    (h3 : ∀ v, mx = some v → ∃ c, mx' = some c ∧ RelV σ v c) (h3' : mx = none → mx' = none) :
    l ≤ h ∧ h ≤ len ∧ ∃ m', h ≤ m' ∧ m' ≤ cap ∧ (mx.isSome = true → m' = m) ∧ (mx.isSome = false → m' = cap) ∧ ∀ w, (Instr.sliceBounds isS len cap lo' hi' mx').run P w = .ok (l, h, m') w := by
  have hbd : ∀ {v : AV} {c : Value} {y n : Nat} (y' : Nat) (code : BoundsCode), aBound v y = some n → RelV σ v c → y ≤ y' → n ≤ y ∧ ∀ w, (Instr.sliceBound c y' code).run P w = .ok n w := by
    intro v c y n y' code hv hr hy
    unfold aBound at hv
    split at hv
    case h_2 => cases hv
    cases hr
    split at hv
    case isFalse => cases hv
    rename_i hcond
    cases hv
    refine ⟨by omega, fun w => ?_⟩
    simp only [Instr.sliceBound, asIntOf, Sem.run_bind, Sem.run_pure, Result.andThen_ok]
    rw [if_pos (by omega)]
    rfl
  unfold aBounds at hb
  cases mx with
  | none =>
    have e3 := h3' rfl
    subst e3
    simp only [Option.bind_some] at hb
    cases hi with
    | none =>
      have e2 := h2' rfl
      subst e2
      simp only [Option.isSome_none, Bool.false_eq_true, if_false, Option.bind_some] at hb
      cases lo with
      | none =>
        have e1 := h1' rfl
        subst e1
        simp at hb
        obtain ⟨rfl, rfl, rfl⟩ := hb
        exact ⟨by omega, by omega, cap, hlc, by omega, fun h => (by cases h), fun _ => rfl, fun w => by simp [Instr.sliceBounds]⟩
      | some v =>
        obtain ⟨c, rfl, hc⟩ := h1 v rfl
        simp only [Option.bind_eq_some_iff, Option.some.injEq, Prod.mk.injEq] at hb
        obtain ⟨l', hl, rfl, rfl, rfl⟩ := hb
        obtain ⟨g1, g2⟩ := hbd len .sliceB hl hc (Nat.le_refl _)
        exact ⟨g1, Nat.le_refl _, cap, hlc, Nat.le_refl _, fun h => (by cases h), fun _ => rfl, fun w => by simp [Instr.sliceBounds, g2]⟩
    | some v2 =>
      obtain ⟨c2, rfl, hc2⟩ := h2 v2 rfl
      simp only [Option.bind_eq_some_iff] at hb
      obtain ⟨h', hh, hb⟩ := hb
      obtain ⟨g3, g4⟩ := hbd cap (if isS then .sliceAcap else .sliceAlen) hh hc2 hlc
      cases lo with
      | none =>
        have e1 := h1' rfl
        subst e1
        simp at hb
        obtain ⟨rfl, rfl, rfl⟩ := hb
        exact ⟨by omega, by omega, cap, by omega, by omega, fun h => (by cases h), fun _ => rfl, fun w => by simp [Instr.sliceBounds, g4]⟩
      | some v =>
        obtain ⟨c, rfl, hc⟩ := h1 v rfl
        simp only [Option.some.injEq, Prod.mk.injEq] at hb
        obtain ⟨l', hl, rfl, rfl, rfl⟩ := hb
        obtain ⟨g1, g2⟩ := hbd h' .sliceB hl hc (Nat.le_refl _)
        exact ⟨g1, g3, cap, by omega, Nat.le_refl _, fun h => (by cases h), fun _ => rfl, fun w => by simp [Instr.sliceBounds, g2, g4]⟩
  | some v3 =>
    obtain ⟨c3, rfl, hc3⟩ := h3 v3 rfl
    simp only [Option.bind_eq_some_iff] at hb
    obtain ⟨m', hm, hb⟩ := hb
    obtain ⟨g5, g6⟩ := hbd cap (if isS then .slice3Acap else .slice3Alen) hm hc3 hlc
    cases hi with
    | none => simp at hb
    | some v2 =>
      obtain ⟨c2, rfl, hc2⟩ := h2 v2 rfl
      simp only at hb
      obtain ⟨h', hh, hb⟩ := hb
      obtain ⟨g3, g4⟩ := hbd m' .slice3B hh hc2 (Nat.le_refl _)
      cases lo with
      | none =>
        have e1 := h1' rfl
        subst e1
        simp at hb
        obtain ⟨rfl, rfl, rfl⟩ := hb
        exact ⟨by omega, by omega, _, g3, by omega, fun _ => rfl, fun h => (by cases h), fun w => by simp [Instr.sliceBounds, g4, g6]⟩
      | some v =>
        obtain ⟨c, rfl, hc⟩ := h1 v rfl
        simp only [Option.some.injEq, Prod.mk.injEq] at hb
        obtain ⟨l', hl, rfl, rfl, rfl⟩ := hb
        obtain ⟨g1, g2⟩ := hbd h' .slice3C hl hc (Nat.le_refl _)
        exact ⟨g1, by omega, m', g3, by omega, fun _ => rfl, fun h => (by cases h), fun w => by
          simp [Instr.sliceBounds, g2, g4, g6]⟩

theorem aMin_sound : ∀ {x : AV} {l : List AV} {a : Value} {l' : List Value} {v : AV}, aMinFrom x l = some v → RelV σ x a → RelVs σ l l' → ∃ c, RelV σ v c ∧ ∀ w, (l'.foldlM Builtin.min2 a).run P w = .ok c w
  | x, [], a, _, v, h, hx, .nil => by simp [aMinFrom] at h; subst h; exact ⟨a, hx, fun w => by simp⟩
  | .int k n, .int _ m :: l, _, _, v, h, .int _ _, .cons (.int _ _) h2 => by
    simp only [aMinFrom] at h
    obtain ⟨c, h3, h4⟩ := aMin_sound h (.int _ _) h2
    exact ⟨c, h3, fun w => by simp [List.foldlM_cons, Builtin.min2, h4]⟩
theorem aMax_sound : ∀ {x : AV} {l : List AV} {a : Value} {l' : List Value} {v : AV}, aMaxFrom x l = some v → RelV σ x a → RelVs σ l l' → ∃ c, RelV σ v c ∧ ∀ w, (l'.foldlM Builtin.max2 a).run P w = .ok c w
  | x, [], a, _, v, h, hx, .nil => by simp [aMaxFrom] at h; subst h; exact ⟨a, hx, fun w => by simp⟩
  | .int k n, .int _ m :: l, _, _, v, h, .int _ _, .cons (.int _ _) h2 => by
    simp only [aMaxFrom] at h
    obtain ⟨c, h3, h4⟩ := aMax_sound h (.int _ _) h2
    exact ⟨c, h3, fun w => by simp [List.foldlM_cons, Builtin.max2, h4]⟩

theorem RelVs.of_ops {ρ : Operand → AV} {ρc : Operand → Value} (hρ : ∀ x, RelV σ (ρ x) (ρc x)) : ∀ (l : List Operand), RelVs σ (l.map ρ) (l.map ρc)
  | [] => .nil
  | x :: l => .cons (hρ x) (RelVs.of_ops hρ l)

theorem aSlice_sound {t : TypeId} {x v : AV} {a : Value} {lo hi mx : Option Operand} {ρ : Operand → AV} {ρc : Operand → Value} (hρ : ∀ x, RelV σ (ρ x) (ρc x)) (h : aSlice P t x (lo.map ρ) (hi.map ρ) (mx.map ρ) = some v) (hx : RelV σ x a) :
    ∃ c, RelV σ v c ∧ ∀ w, (Instr.sliceAt t a (lo.map ρc) (hi.map ρc) (mx.map ρc)).run P w = .ok c w := by
  have e1 : ∀ (o : Option Operand) v, o.map ρ = some v → ∃ c, o.map ρc = some c ∧ RelV σ v c := fun o v ho => by
    cases o with
    | none => simp at ho
    | some y => simp at ho; subst ho; exact ⟨_, rfl, hρ y⟩
  have e2 : ∀ (o : Option Operand), o.map ρ = none → o.map ρc = none := fun o ho => by cases o <;> simp_all
  unfold aSlice at h
  split at h
  case h_4 => cases h
  case h_1 s hu =>
    split at h
    · cases h
    · rename_i hm
      obtain ⟨⟨l, h', m⟩, hb, rfl⟩ := Option.map_eq_some_iff.1 h
      cases hx with | str s => ?_
      have hm' : mx = none := by cases mx <;> simp_all
      subst hm'
      obtain ⟨g1, g2, m', g3, g4, gm, gc, g5⟩ := aBounds_sound (P := P) (isS := false) (cap := s.data.toList.length) (Nat.le_refl _) (mx' := none) hb (e1 lo) (e2 lo) (e1 hi) (e2 hi) (fun v h => by cases h) (fun _ => rfl)
      refine ⟨.string (s.extract l h'), ?_, fun w => ?_⟩
      · have : (s.data.toList.drop l).take (h' - l) = (s.extract l h').data.toList := by
          rw [ByteArray.data_extract, Array.toList_extract, List.extract_eq_take_drop]
        show RelV σ (.str ((s.data.toList.drop l).take (h' - l))) _
        rw [this]; exact .str _
      · have g5' : ∀ w, (Instr.sliceBounds false s.size s.size (Option.map ρc lo) (Option.map ρc hi) none).run P w = .ok (l, h', m') w := g5
        simp [Instr.sliceAt, run_underlying hu, Instr.slice, g5']
  case h_2 e r off len ver sz full hu =>
    split at h
    case h_2 => cases h
    rename_i ie hie
    split at h
    case isFalse =>
      split at h
      case h_2 => cases h
      obtain ⟨⟨l, h', m⟩, hb, rfl⟩ := Option.map_eq_some_iff.1 h
      cases hx with
      | nilslice =>
        obtain ⟨g1, g2, m', g3, g4, gm, gc, g5⟩ := aBounds_sound (P := P) (isS := true) (cap := 0) (Nat.le_refl _) hb (e1 lo) (e2 lo) (e1 hi) (e2 hi) (e1 mx) (e2 mx)
        have : l = 0 := by omega
        have : h' = 0 := by omega
        have : m' = 0 := by omega
        subst_vars
        refine ⟨.slice none 0 0, .nilslice, fun w => ?_⟩
        simp [Instr.sliceAt, run_underlying hu, Instr.slice, g5, sizeOf, typeInfo, hie]
    rename_i hsz
    obtain ⟨⟨l, h', m⟩, hb, rfl⟩ := Option.map_eq_some_iff.1 h
    cases hx with
    | nilslice =>
      obtain ⟨g1, g2, m', g3, g4, gm, gc, g5⟩ := aBounds_sound (P := P) (isS := true) (cap := 0) (Nat.le_refl _) hb (e1 lo) (e2 lo) (e1 hi) (e2 hi) (e1 mx) (e2 mx)
      have : l = 0 := by omega
      have : h' = 0 := by omega
      have : m' = 0 := by omega
      subst_vars
      refine ⟨.slice none 0 0, ?_, fun w => ?_⟩
      · simp only []
        split
        · split
          · exact .nilslice
          · exact .undef _
        · exact .nilslice
      · simp [Instr.sliceAt, run_underlying hu, Instr.slice, g5, sizeOf, typeInfo, hie]
    | slice hf hv hc hl ho hfl hfin =>
      rename_i r b o n cap sp d
      obtain ⟨g1, g2, m', g3, g4, gm, gc, g5⟩ := aBounds_sound (P := P) (isS := true) (cap := cap) hl hb (e1 lo) (e2 lo) (e1 hi) (e2 hi) (e1 mx) (e2 mx)
      refine ⟨.slice (some (if m' = l then ⟨b, o, sp⟩ else (⟨b, o, sp⟩ : Addr).add (l * ie.size))) (h' - l) (m' - l), ?_, fun w => ?_⟩
      · simp only []
        have hoo : m' ≠ l → ∃ q, (⟨b, o, sp⟩ : Addr).add (l * ie.size) = ⟨b, q, none⟩ ∧ (q : Int) = d + (off + l * sz : Nat) ∧ q + (m' - l) * sz ≤ n := by
          intro hml
          have hcap : cap ≠ 0 := by omega
          obtain ⟨ho1, ho2, rfl⟩ := ho hcap
          refine ⟨o + l * sz, by rw [hsz, add_plain], by push_cast; omega, ?_⟩
          have h1 : l * sz + (m' - l) * sz = m' * sz := by rw [← Nat.add_mul]; congr 1; omega
          have h2 : m' * sz ≤ cap * sz := Nat.mul_le_mul_right _ g4
          omega
        split
        · rename_i hs
          have hmm := gm hs
          split
          · rename_i hhm
            have e : m' = h' := by omega
            subst e
            by_cases hml : m' = l
            · rw [if_pos hml]
              subst hml
              rw [Nat.sub_self]
              exact .clip hf hv hc (fun hne => absurd rfl hne)
            · rw [if_neg hml]
              obtain ⟨q, q1, q2, q3⟩ := hoo hml
              rw [q1]
              exact .clip hf hv hc (fun _ => ⟨q2, q3, rfl⟩)
          · exact .undef _
        · rename_i hs
          have hmc : m' = cap := gc (by simpa using hs)
          have hfull : (full && h' == len) = true → m' - l = h' - l := by
            intro hq
            simp at hq
            have := hfl hq.1; omega
          have hfin' : ver = σ.ver r → σ.fin r ≤ (off + l * sz) + (m' - l) * sz := by
            intro e
            have h0 := hfin e
            have h1 : l * sz + (m' - l) * sz = m' * sz := by rw [← Nat.add_mul]; congr 1; omega
            rw [← hmc] at h0
            omega
          by_cases hml : m' = l
          · rw [if_pos hml]
            subst hml
            exact .slice hf hv hc (by omega) (fun hne => absurd (Nat.sub_self _) hne) hfull hfin'
          · rw [if_neg hml]
            obtain ⟨q, q1, q2, q3⟩ := hoo hml
            rw [q1]
            exact .slice hf hv hc (by omega) (fun _ => ⟨q2, q3, rfl⟩) hfull hfin'
      · simp only [Instr.sliceAt, Sem.run_bind, run_underlying hu, Result.andThen_ok, Instr.slice, g5, sizeOf, typeInfo, hie, Sem.run_pure, run_program]
        split <;> rfl
  case h_3 e r off len ver sz hu =>
    split at h
    case h_2 => cases h
    rename_i ie hie
    split at h
    case isFalse => cases h
    rename_i hsz
    obtain ⟨⟨l, h', m⟩, hb, rfl⟩ := Option.map_eq_some_iff.1 h
    cases hx with
    | clip hf hv hc ho =>
      rename_i b o n sp d
      obtain ⟨g1, g2, m', g3, g4, gm, gc, g5⟩ := aBounds_sound (P := P) (isS := true) (cap := len) (Nat.le_refl _) hb (e1 lo) (e2 lo) (e1 hi) (e2 hi) (e1 mx) (e2 mx)
      refine ⟨.slice (some (if m' = l then ⟨b, o, sp⟩ else (⟨b, o, sp⟩ : Addr).add (l * ie.size))) (h' - l) (m' - l), ?_, fun w => ?_⟩
      · have hmm : (if (mx.map ρ).isSome = true then m else len) = m' := by
          split
          · rename_i hs; exact (gm hs).symm
          · rename_i hs; exact (gc (by simpa using hs)).symm
        simp only [hmm]
        split
        · rename_i hhm
          have e : m' = h' := hhm.symm
          subst e
          by_cases hml : m' = l
          · rw [if_pos hml]
            subst hml
            rw [Nat.sub_self]
            exact .clip hf hv hc (fun hne => absurd rfl hne)
          · rw [if_neg hml]
            obtain ⟨ho1, ho2, rfl⟩ := ho (by omega)
            rw [add_plain]
            refine .clip hf hv hc (fun _ => ⟨?_, ?_, rfl⟩)
            · rw [hsz]; push_cast; omega
            · have h1 : l * sz + (m' - l) * sz = m' * sz := by rw [← Nat.add_mul]; congr 1; omega
              have h2 : m' * sz ≤ len * sz := Nat.mul_le_mul_right _ g4
              rw [hsz]; omega
        · exact .undef _
      · simp only [Instr.sliceAt, Sem.run_bind, run_underlying hu, Result.andThen_ok, Instr.slice, g5, sizeOf, typeInfo, hie, Sem.run_pure, run_program]
        split <;> rfl
end
end Go.Proofs.Ytjfmiohgkcjdnaa.AX
