/- A plain reading of runs: operations that leave memory alone. -/
import Derived.Test.YtjfmiohgkcjdnaaAxB
import Derived.Laws.Strings
namespace Go.Proofs.Ytjfmiohgkcjdnaa.AX
open Go Go.RowKit

structure TI where
  desc : TypeDesc
  size : Nat
  bytes : Nat
  zero : List AV

def tiOf (P : Program) (t : TypeId) : Option TI :=
  match P.underlying t, P.info? t with
  | some d, some i =>
    match i.zero with
    | some z => if z.cells.size = i.size then some ⟨d, i.size, i.bytes, z.cells.toList.map (absV 2)⟩ else none
    | none => none
  | _, _ => none

theorem tiOf_some {P : Program} {t : TypeId} {I : TI} (h : tiOf P t = some I) : P.underlying t = some I.desc ∧ ∃ i z, P.info? t = some i ∧ i.zero = some z ∧ i.size = I.size ∧ i.bytes = I.bytes ∧ z.cells.size = I.size ∧ I.zero = z.cells.toList.map (absV 2) := by
  unfold tiOf at h
  split at h
  case h_2 => cases h
  rename_i d i h1 h2
  split at h
  case h_2 => cases h
  rename_i z h3
  split at h
  case isFalse => cases h
  rename_i h4
  cases h
  exact ⟨h1, i, z, h2, h3, rfl, rfl, h4, rfl⟩

def isAggD : TypeDesc → Bool
  | .struct _ | .array _ _ => true
  | _ => false

/-- A value out of its cells. -/
def mkVal (d : TypeDesc) (cells : List AV) : Option AV :=
  if isAggD d then some (.agg cells) else match cells with | [v] => some v | _ => none

def acells : AV → List AV
  | .agg cs => cs
  | v => [v]

def aBin (op : BinOp) (x y : AV) : Option AV :=
  match x, y with
  | .int k a, .int k' b =>
    match op with
    | .shl => if b < 0 then none else some (.int k (k.wrap (a * 2 ^ (min b.toNat k.bits))))
    | .shr => if b < 0 then none else some (.int k (a.fdiv (2 ^ (min b.toNat k.bits))))
    | _ =>
      if k = k' then
        match op with
        | .add => some (.int k (k.wrap (a + b)))
        | .sub => some (.int k (k.wrap (a - b)))
        | .mul => some (.int k (k.wrap (a * b)))
        | .quo => if b = 0 then none else some (.int k (k.wrap (a.tdiv b)))
        | .rem => if b = 0 then none else some (.int k (a.tmod b))
        | .and => some (.int k (k.wrap (BitVec.ofInt k.bits a &&& BitVec.ofInt k.bits b).toNat))
        | .or => some (.int k (k.wrap (BitVec.ofInt k.bits a ||| BitVec.ofInt k.bits b).toNat))
        | .xor => some (.int k (k.wrap (BitVec.ofInt k.bits a ^^^ BitVec.ofInt k.bits b).toNat))
        | .andNot => some (.int k (k.wrap (BitVec.ofInt k.bits a &&& ~~~BitVec.ofInt k.bits b).toNat))
        | .eql => some (.bool (a == b))
        | .neq => some (.bool (a != b))
        | .lss => some (.bool (a < b))
        | .leq => some (.bool (a ≤ b))
        | .gtr => some (.bool (a > b))
        | .geq => some (.bool (a ≥ b))
        | _ => none
      else none
  | .str a, .str b =>
    match op with
    | .add => if a.length + b.length ≤ 1073741824 then some (.str (a ++ b)) else none
    | .eql => some (.bool (a == b))
    | .neq => some (.bool !(a == b))
    | .lss => some (.bool (Op.bytesLess a b))
    | .leq => some (.bool (Op.bytesLess a b || a == b))
    | .gtr => some (.bool !(Op.bytesLess a b || a == b))
    | .geq => some (.bool !(Op.bytesLess a b))
    | _ => none
  | _, _ => none

theorem ba_toList (s : ByteArray) : s.toList = s.data.toList := by
  exact ByteArray.toList_eq s

section
variable {P : Program} {σ : Inj}

theorem aBin_sound {op : BinOp} {t : TypeId} {x y v : AV} {a b : Value} {X Y : Operand} (h : aBin op x y = some v) (hx : RelV σ x a) (hy : RelV σ y b) :
    ∃ c, RelV σ v c ∧ ∀ w, (do eqGuard op t X Y a b; binOp op t a b : Sem Value).run P w = .ok c w := by
  unfold aBin at h
  split at h
  case h_3 => cases h
  case h_1 k n k' m =>
    cases hx; cases hy
    have hg : ∀ w, (eqGuard op t X Y (.int k n) (.int k' m)).run P w = .ok () w := fun w => by
      unfold eqGuard
      cases op <;> rfl
    split at h
    · split at h
      · cases h
      · rename_i hb
        cases h
        exact ⟨_, .int _ _, fun w => by simp only [Sem.run_bind, hg, Result.andThen_ok, binOp, Op.shift, hb, if_false]; rfl⟩
    · split at h
      · cases h
      · rename_i hb
        cases h
        exact ⟨_, .int _ _, fun w => by simp only [Sem.run_bind, hg, Result.andThen_ok, binOp, Op.shift, hb, if_false]; rfl⟩
    · rename_i hs1 hs2
      split at h
      case isFalse => cases h
      rename_i hk
      subst hk
      cases op <;> simp only [reduceCtorEq] at h hs1 hs2 <;>
        first
        | (exact (hs1 rfl).elim)
        | (exact (hs2 rfl).elim)
        | (split at h
           · cases h
           · rename_i hb
             cases h
             exact ⟨_, .int _ _, fun w => by simp only [Sem.run_bind, hg, Result.andThen_ok, binOp, ne_eq, not_true_eq_false, if_false, Op.intDiv, hb]; rfl⟩)
        | (cases h
           first
           | exact ⟨_, .int _ _, fun w => by simp only [Sem.run_bind, hg, Result.andThen_ok, binOp, ne_eq, not_true_eq_false, if_false]; rfl⟩
           | exact ⟨_, .bool _, fun w => by simp only [Sem.run_bind, hg, Result.andThen_ok, binOp, ne_eq, not_true_eq_false, if_false]; rfl⟩)
  case h_2 p q =>
    cases hx with | str s => ?_
    cases hy with | str u => ?_
    have hg : ∀ w, (eqGuard op t X Y (.string s) (.string u)).run P w = .ok () w := fun w => by
      unfold eqGuard
      cases op <;> rfl
    have hb : ∀ w, (do eqGuard op t X Y (.string s) (.string u); binOp op t (.string s) (.string u) : Sem Value).run P w = (Op.stringOp op s u).run P w := fun w => by
      simp only [Sem.run_bind, hg, Result.andThen_ok]
      cases op <;> rfl
    cases op <;> simp only [reduceCtorEq] at h
    case add =>
      split at h
      case isFalse => cases h
      rename_i hl
      cases h
      refine ⟨.string (s ++ u), ?_, fun w => ?_⟩
      · have : (s ++ u).data.toList = s.data.toList ++ u.data.toList := by simp [ByteArray.data_append]
        rw [← this]; exact .str _
      · rw [hb]
        simp only [Op.stringOp]
        rw [if_neg]
        · rfl
        · have h1 : s.size = s.data.toList.length := by rfl
          have h2 : u.size = u.data.toList.length := by rfl
          have h3 : IntKind.i64.max = 9223372036854775807 := by rfl
          rw [h1, h2, h3]; omega
    all_goals
      cases h
      exact ⟨_, .bool _, fun w => by rw [hb]; simp only [Op.stringOp, ba_toList]; rfl⟩

/-- Comparisons that ask the type. -/
def aCmp (P : Program) (op : BinOp) (t : TypeId) (lit : Bool) (x y : AV) : Option AV :=
  let r : Option Bool := match P.underlying t, x, y with
    | some .bool, .bool a, .bool b => some (a == b)
    | some (.slice _), .slice r _ _ _ _ _, .slice none _ _ _ _ _ => some r.isNone
    | some (.slice _), .clip _ _ _ _ _, .slice none _ _ _ _ _ => some false
    | some (.pointer _), .nilptr, .nilptr => some true
    | some (.pointer _), .nilptr, .ptr _ _ _ => some false
    | some (.pointer _), .ptr _ _ _, .nilptr => some false
    | some (.map _ _), .nilmap, .nilmap => some true
    | some (.map _ _), .map _, .nilmap => some false
    | some (.func _ _ _), .nilfunc, .nilfunc => some true
    | some (.func _ _ _), .func _ _ _, .nilfunc => some false
    | some (.interface _), .iface _ _, .niliface => some false
    | some (.interface _), .niliface, .iface _ _ => some false
    | some (.interface _), .niliface, .niliface => if lit then some true else none
    | _, _, _ => none
  match op with
  | .eql => r.map .bool
  | .neq => r.map fun b => .bool (!b)
  | _ => none

def litOp : Operand → Bool
  | .const _ => true
  | _ => false

theorem equal_of {t : TypeId} {a b : Value} {r : Bool} {w : World} (h : ∀ d, (Op.equalIn (d + 1) t a b).run P w = .ok r w) (w' : World) (hw : w' = w := by rfl) : (Op.equal t a b).run P w' = .ok r w' := by
  subst hw; exact h 9999

theorem aCmp_eq {op : BinOp} {t : TypeId} {v : AV} {a b : Value} {X Y : Operand} {r : Bool} (hop : op = .eql ∨ op = .neq) (hg : ∀ w, (eqGuard op t X Y a b).run P w = .ok () w)
    (hb : ∀ w, (Op.equal t a b).run P w = .ok r w) (hbin : ∀ op, op = .eql ∨ op = .neq → binOp op t a b = (if op = .eql then (do pure (.bool (← Op.equal t a b))) else (do pure (.bool (!(← Op.equal t a b))))))
    (hv : v = .bool (if op = .eql then r else !r)) : ∃ c, RelV σ v c ∧ ∀ w, (do eqGuard op t X Y a b; binOp op t a b : Sem Value).run P w = .ok c w := by
  subst hv
  refine ⟨.bool (if op = .eql then r else !r), .bool _, fun w => ?_⟩
  simp only [Sem.run_bind, hg, Result.andThen_ok, hbin op hop]
  rcases hop with rfl | rfl <;> simp [hb]

theorem aCmp_sound {op : BinOp} {t : TypeId} {x y v : AV} {a b : Value} {X Y : Operand} (h : aCmp P op t (litOp X || litOp Y) x y = some v) (hx : RelV σ x a) (hy : RelV σ y b) :
    ∃ c, RelV σ v c ∧ ∀ w, (do eqGuard op t X Y a b; binOp op t a b : Sem Value).run P w = .ok c w := by
  have hop : op = .eql ∨ op = .neq := by
    unfold aCmp at h
    cases op <;> simp at h ⊢
  have hrun : ∃ r, (match P.underlying t, x, y with
    | some .bool, .bool a, .bool b => some (a == b)
    | some (.slice _), .slice r _ _ _ _ _, .slice none _ _ _ _ _ => some r.isNone
    | some (.slice _), .clip _ _ _ _ _, .slice none _ _ _ _ _ => some false
    | some (.pointer _), .nilptr, .nilptr => some true
    | some (.pointer _), .nilptr, .ptr _ _ _ => some false
    | some (.pointer _), .ptr _ _ _, .nilptr => some false
    | some (.map _ _), .nilmap, .nilmap => some true
    | some (.map _ _), .map _, .nilmap => some false
    | some (.func _ _ _), .nilfunc, .nilfunc => some true
    | some (.func _ _ _), .func _ _ _, .nilfunc => some false
    | some (.interface _), .iface _ _, .niliface => some false
    | some (.interface _), .niliface, .iface _ _ => some false
    | some (.interface _), .niliface, .niliface => if (litOp X || litOp Y) then some true else none
    | _, _, _ => none) = some r ∧ v = .bool (if op = .eql then r else !r) := by
    unfold aCmp at h
    rcases hop with rfl | rfl
    · obtain ⟨r, h1, h2⟩ := Option.map_eq_some_iff.1 h
      exact ⟨r, h1, by simp [h2]⟩
    · obtain ⟨r, h1, h2⟩ := Option.map_eq_some_iff.1 h
      exact ⟨r, h1, by simp [h2]⟩
  obtain ⟨r, hr, hv⟩ := hrun
  clear h
  split at hr
  case h_14 => cases hr
  all_goals rename_i hu
  all_goals cases hx
  all_goals cases hy
  case h_13 =>
    split at hr
    case isFalse => cases hr
    rename_i hl
    cases hr
    refine aCmp_eq (r := true) hop (fun w => ?_) (fun w => ?_) ?_ hv
    · simp only [eqGuard]
      have : (match X with | .const _ => true | _ => false) || (match Y with | .const _ => true | _ => false) = true := by
        cases X <;> cases Y <;> first | rfl | (simp [litOp] at hl)
      rcases hop with rfl | rfl <;> cases X <;> cases Y <;> first | rfl | (simp [litOp] at hl)
    · exact equal_of (fun d => by simp only [Op.equalIn, Sem.run_bind, run_underlying hu, Result.andThen_ok]; rfl) w
    · intro op hop; rcases hop with rfl | rfl <;> rfl
  all_goals try cases hr
  all_goals
    refine aCmp_eq hop (fun w => ?_) (fun w => ?_) ?_ hv
    · rcases hop with rfl | rfl <;> rfl
    · exact equal_of (fun d => by simp only [Op.equalIn, Sem.run_bind, run_underlying hu, Result.andThen_ok]; rfl) w
    · intro op hop; rcases hop with rfl | rfl <;> rfl
end
end Go.Proofs.Ytjfmiohgkcjdnaa.AX
