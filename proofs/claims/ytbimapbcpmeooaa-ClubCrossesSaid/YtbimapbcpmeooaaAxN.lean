/- A plain reading of runs (N). -/
import Derived.Test.YtbimapbcpmeooaaAxG
import Derived.MapKept
import Derived.WideKeyArr
import Derived.Laws.Cover4
import Derived.Deep.LoopGhost
import Derived.Sort.LoopGhostIn
import Derived.OrdersIn
/- A plain reading of runs: maps that the call makes. -/
namespace Go.Proofs.Ytbimapbcpmeooaa.AX
open Go Go.RowKit

/-- A value that may be a key of the type. -/
def keyOkA : TypeDesc → AV → Bool
  | .bool, .bool _ => true
  | .int k, .int k' _ => decide (k' = k)
  | .string, .str _ => true
  | _, _ => false
def sameKeyA : TypeDesc → AV → AV → Option Bool
  | .int _, .int k a, .int k' b => if k = k' then some (a == b) else none
  | .string, .str a, .str b => some (a == b)
  | .bool, .bool a, .bool b => some (a == b)
  | _, _, _ => none
def mfind (d : TypeDesc) (x : AV) : List (AV × AV) → Option (Option AV)
  | [] => some none
  | (k, v) :: l => match sameKeyA d x k with
    | some true => some (some v)
    | some false => mfind d x l
    | none => none
def mput (d : TypeDesc) (x v : AV) : List (AV × AV) → Option (List (AV × AV))
  | [] => some [(x, v)]
  | (k, u) :: l => match sameKeyA d x k with
    | some true => some ((x, v) :: l)
    | some false => (mput d x v l).map ((k, u) :: ·)
    | none => none

/-- A map's type: its keys' type, and the value of a key that is not there. -/
def mapT (P : Program) (t : TypeId) : Option (TypeDesc × AV) :=
  match P.underlying t with
  | some (.map kt et) =>
    match P.underlying kt, (P.info? et).bind (·.zero) with
    | some d, some z => some (d, absV 3 z)
    | _, _ => none
  | _ => none
def lookV (ok : Bool) (v : AV) (b : Bool) : AV := if ok then .tuple [v, .bool b] else v
def mrow (H : AH) (r : Nat) : Option (List (AV × AV)) := match H[r]? with
  | some (.map es) => some es
  | _ => none
/-- A map whose keys are arrays of ints: how many, of which kind. -/
def arrT (P : Program) (t : TypeId) : Option (Nat × IntKind) :=
  match P.underlying t with
  | some (.map kt _) => match P.underlying kt with
    | some (.array n e) => match P.underlying e with
      | some (.int q) => if P.cellsOf e = 1 ∧ P.cellsOf kt = n ∧ P.types.size ≠ 0 then some (n, q) else none
      | _ => none
    | _ => none
  | _ => none
def intOk (q : IntKind) : AV → Bool
  | .int k a => decide (k = q) && (Lit.int q a).wf
  | _ => false
def keyOkW (n : Nat) (q : IntKind) (xs : List AV) : Bool := decide (xs.length = n) && xs.all (intOk q)
def sameKeyW (q : IntKind) : List AV → List AV → Option Bool
  | [], [] => some true
  | .int k a :: xs, .int k' b :: ys => if k = q ∧ k' = q ∧ (Lit.int q b).wf = true then (sameKeyW q xs ys).map fun r => decide (a = b) && r else none
  | _, _ => none
def mfindW (q : IntKind) (xs : List AV) : List (AV × AV) → Option (Option AV)
  | [] => some none
  | (.agg ys, v) :: l => match sameKeyW q xs ys with
    | some true => some (some v)
    | some false => mfindW q xs l
    | none => none
  | _ => none
def mputW (q : IntKind) (xs : List AV) (v : AV) : List (AV × AV) → Option (List (AV × AV))
  | [] => some [(.agg xs, v)]
  | (.agg ys, u) :: l => match sameKeyW q xs ys with
    | some true => some ((.agg xs, v) :: l)
    | some false => (mputW q xs v l).map ((.agg ys, u) :: ·)
    | none => none
  | _ => none
def aLookF (H : AH) (F : List (AV × AV) → Option (Option AV)) (z m : AV) (ok : Bool) : Option AV :=
  match m with
  | .nilmap => some (lookV ok z false)
  | .map r => (mrow H r).bind fun es => (F es).map fun u => match u with
    | some v => lookV ok v true
    | none => lookV ok z false
  | _ => none
def aLook (P : Program) (H : AH) (t : TypeId) (m x : AV) (ok : Bool) : Option AV :=
  match mapT P t with
  | some (d, z) => if keyOkA d x then aLookF H (mfind d x) z m ok else
      match arrT P t, x with
      | some (n, q), .agg xs => if keyOkW n q xs then aLookF H (mfindW q xs) z m ok else none
      | _, _ => none
  | none => none
def aMapMake (P : Program) (t : TypeId) (r : Option AV) (H : AH) : Option (Option AV × AH) :=
  if (mapT P t).isSome then
    match r with
    | none => some (some (.map H.length), H ++ [.map []])
    | some (.int _ _) => some (some (.map H.length), H ++ [.map []])
    | _ => none
  else none
def aPutF (H : AH) (F : List (AV × AV) → Option (List (AV × AV))) (r : Nat) : Option AH := (mrow H r).bind fun es => (F es).map fun es' => H.set r (.map es')
def aMapPut (P : Program) (H : AH) (t : TypeId) (m x v : AV) : Option AH :=
  match mapT P t, m with
  | some (d, _), .map r => if keyOkA d x then aPutF H (mput d x v) r else
      match arrT P t, x with
      | some (n, q), .agg xs => if keyOkW n q xs then aPutF H (mputW q xs v) r else none
      | _, _ => none
  | _, _ => none
def aMapLen (H : AH) : AV → Option AV
  | .map r => (mrow H r).map fun es => .int .i64 es.length
  | _ => none

section
variable {P : Program} {base : Nat} {w0 w : World} {σ : Inj} {H : AH}

theorem mapT_some {t : TypeId} {d : TypeDesc} {z : AV} (h : mapT P t = some (d, z)) : ∃ kt et c, P.underlying t = some (.map kt et) ∧ P.underlying kt = some d ∧ (∀ w, (zeroValue et).run P w = .ok c w) ∧ ∀ σ, RelV σ z c := by
  unfold mapT at h
  split at h
  case h_2 => cases h
  rename_i kt et hu
  split at h
  case h_2 => cases h
  rename_i d' z' hk hz
  cases h
  obtain ⟨i, hi, hz⟩ := Option.bind_eq_some_iff.1 hz
  exact ⟨kt, et, z', hu, hk, fun w => by simp [zeroValue, typeInfo, hi, hz], fun σ => relV_absV σ 3 z'⟩

theorem keyOkA_key {d : TypeDesc} {x : AV} {c : Value} (h : keyOkA d x = true) (hx : RelV σ x c) : MapKept.IsKey d c := by
  unfold keyOkA at h
  split at h
  · cases hx; trivial
  · cases hx; simpa [MapKept.IsKey] using h
  · cases hx; trivial
  · cases h

theorem bytes_eq_list (a b : ByteArray) : (a == b) = (a.data.toList == b.data.toList) := by
  rw [Bool.eq_iff_iff]
  constructor
  · intro h
    have : a.data = b.data := by
      have h : (a.data == b.data) = true := h
      exact eq_of_beq h
    rw [this]; exact beq_self_eq_true _
  · intro h
    have h1 : a.data = b.data := Array.toList_inj.1 (eq_of_beq h)
    show (a.data == b.data) = true
    rw [h1]; exact beq_self_eq_true _

theorem sameKeyA_sound {d : TypeDesc} {x k : AV} {c ck : Value} {b : Bool} (h : sameKeyA d x k = some b) (hx : RelV σ x c) (hk : RelV σ k ck) : Instr.sameNow d c ck = some b ∧ (b = true → ck = c) := by
  unfold sameKeyA at h
  split at h
  · cases hx; cases hk
    split at h
    · rename_i e; subst e; cases h
      refine ⟨by simp [Instr.sameNow], fun hb => ?_⟩
      have : _ = _ := eq_of_beq hb
      rw [this]
    · cases h
  · cases hx; cases hk; cases h
    rename_i s1 s2
    refine ⟨by simp [Instr.sameNow, bytes_eq_list], fun hb => ?_⟩
    have h1 := eq_of_beq hb
    cases s1; cases s2
    simp only [Value.string.injEq, ByteArray.mk.injEq]
    exact Array.toList_inj.1 h1.symm
  · cases hx; cases hk; cases h
    refine ⟨by simp [Instr.sameNow], fun hb => ?_⟩
    have : _ = _ := eq_of_beq hb
    rw [this]
  · cases h

theorem mfind_sound {d : TypeDesc} {x : AV} {c : Value} (hx : RelV σ x c) : ∀ {l : List (AV × AV)} {es : List MapEntry} {r : Option AV} (i : Nat), mfind d x l = some r → RelEs σ l es →
    ∃ r', Instr.findNow d c es i = some r' ∧ match r, r' with
      | some v, some (_, u) => RelV σ v u
      | none, none => True
      | _, _ => False
  | [], [], r, i, h, _ => by simp [mfind] at h; subst h; exact ⟨none, rfl, trivial⟩
  | [], _ :: _, _, _, _, h => h.elim
  | _ :: _, [], _, _, _, h => h.elim
  | (k, v) :: l, e :: es, r, i, h, hr => by
    obtain ⟨h1, h2, h3⟩ := hr
    simp only [mfind] at h
    split at h
    · rename_i hs; cases h
      exact ⟨some (i, e.val), by simp [Instr.findNow, (sameKeyA_sound hs hx h1).1], h2⟩
    · rename_i hs
      obtain ⟨r', g1, g2⟩ := mfind_sound hx (i + 1) h h3
      exact ⟨r', by simp [Instr.findNow, (sameKeyA_sound hs hx h1).1, g1], g2⟩
    · cases h

theorem mput_sound {d : TypeDesc} {x v : AV} {c u : Value} {clock : Nat} (hx : RelV σ x c) (hv : RelV σ v u) : ∀ {l l' : List (AV × AV)} {es : List MapEntry} (i : Nat), mput d x v l = some l' → RelEs σ l es →
    (Instr.findNow d c es i = some none ∧ RelEs σ l' (es ++ [{ key := c, val := u, born := clock }])) ∨
    ∃ j e, Instr.findNow d c es i = some (some (i + j, e.val)) ∧ es[j]? = some e ∧ e.key = c ∧ RelEs σ l' (es.modify j fun e => { e with key := c, val := u })
  | [], l', [], i, h, _ => by simp [mput] at h; subst h; exact .inl ⟨rfl, hx, hv, trivial⟩
  | [], _, _ :: _, _, _, h => h.elim
  | _ :: _, _, [], _, _, h => h.elim
  | (k, w) :: l, l', e :: es, i, h, hr => by
    obtain ⟨h1, h2, h3⟩ := hr
    simp only [mput] at h
    split at h
    · rename_i hs; cases h
      obtain ⟨q1, q2⟩ := sameKeyA_sound hs hx h1
      exact .inr ⟨0, e, by simp [Instr.findNow, q1], rfl, q2 rfl, hx, hv, h3⟩
    · rename_i hs
      obtain ⟨l2, g, rfl⟩ := Option.map_eq_some_iff.1 h
      have q1 := (sameKeyA_sound hs hx h1).1
      rcases mput_sound (clock := clock) hx hv (i + 1) g h3 with ⟨a1, a2⟩ | ⟨j, e', a1, a2, a3, a4⟩
      · exact .inl ⟨by simp [Instr.findNow, q1, a1], h1, h2, a2⟩
      · exact .inr ⟨j + 1, e', by simp [Instr.findNow, q1, a1]; omega, by simpa using a2, a3, by simpa [List.modify_succ_cons] using ⟨h1, h2, a4⟩⟩
    · cases h

theorem mrow_some {r : Nat} {es : List (AV × AV)} (h : mrow H r = some es) : H[r]? = some (.map es) := by
  unfold mrow at h
  split at h
  · rename_i hh; cases h; exact hh
  · cases h

theorem aLookF_sound (S : Sim base w0 σ H w) {t kt et : TypeId} {m v z : AV} {a c zc : Value} {ok : Bool} {F : List (AV × AV) → Option (Option AV)} (h : aLookF H F z m ok = some v) (hm : RelV σ m a) (hu : P.underlying t = some (.map kt et)) (hz : ∀ w, (zeroValue et).run P w = .ok zc w) (hzr : RelV σ z zc)
    (hc : ∀ (w : World) (em : Bool), (Instr.checkKey em 10000 kt c).run P w = .ok () w)
    (hf : ∀ {l : List (AV × AV)} {es : List MapEntry} {r : Option AV}, F l = some r → RelEs σ l es → ∃ r', (∀ w, (Instr.findKey kt c es).run P w = .ok r' w) ∧ match r, r' with
      | some v, some (_, u) => RelV σ v u
      | none, none => True
      | _, _ => False)
    (hn : ∀ w, (Instr.findKey kt c []).run P w = .ok none w) :
    ∃ u, RelV σ v u ∧ (Instr.lookup t a c ok).run P w = .ok u w := by
  have hlook : ∀ {v : AV} {u : Value} (b : Bool), RelV σ v u → RelV σ (lookV ok v b) (if ok = true then .tuple #[u, .bool b] else u) := by
    intro v u b hv
    unfold lookV
    split
    · exact .tuple (.cons hv (.cons (.bool _) .nil))
    · exact hv
  unfold aLookF at h
  split at h
  · cases h; cases hm
    refine ⟨_, hlook false hzr, ?_⟩
    simp [Instr.lookup, run_underlying hu, hc, hn, hz]
  · rename_i r
    obtain ⟨l, hl, h⟩ := Option.bind_eq_some_iff.1 h
    obtain ⟨q, hq, rfl⟩ := Option.map_eq_some_iff.1 h
    obtain ⟨b, es, clock, g1, g2, g3, g4⟩ := (S.maps r l (mrow_some hl)).at_
    cases hm with
    | map hmb =>
    rw [g1] at hmb; cases hmb
    obtain ⟨r', f1, f2⟩ := hf hq g4
    cases q with
    | none =>
      cases r' with
      | some y => exact f2.elim
      | none =>
        refine ⟨_, hlook false hzr, ?_⟩
        simp [Instr.lookup, run_underlying hu, MapKept.run_getObj_map g3, hc, f1, hz]
    | some v =>
      cases r' with
      | none => exact f2.elim
      | some y =>
        refine ⟨_, hlook true f2, ?_⟩
        simp [Instr.lookup, run_underlying hu, MapKept.run_getObj_map g3, hc, f1]
  · cases h
theorem arrT_some {t : TypeId} {n : Nat} {q : IntKind} (h : arrT P t = some (n, q)) : ∃ kt et e, P.underlying t = some (.map kt et) ∧ WideMaps.ArrKey P kt e n ∧ P.underlying e = some (.int q) ∧ ∃ m, P.types.size = m + 1 := by
  unfold arrT at h
  split at h
  case h_2 => cases h
  rename_i kt et hu
  split at h
  case h_2 => cases h
  rename_i n' e hk
  split at h
  case h_2 => cases h
  rename_i q' he
  split at h
  case isFalse => cases h
  rename_i hc
  cases h
  exact ⟨kt, et, e, hu, ⟨hk, by simp [Program.plainKey, he], hc.1, hc.2.1⟩, he, P.types.size - 1, by omega⟩
theorem intsOk_rel {q : IntKind} : ∀ {xs : List AV} {cs : List Value}, xs.all (intOk q) = true → RelVs σ xs cs → ∃ l : List Int, xs = l.map (.int q) ∧ cs = l.map (.int q) ∧ ∀ a ∈ l, (Lit.int q a).wf = true
  | [], _, _, .nil => ⟨[], rfl, rfl, by simp⟩
  | x :: xs, _, h, .cons hx hr => by
    simp only [List.all_cons, Bool.and_eq_true] at h
    obtain ⟨l, rfl, rfl, hw⟩ := intsOk_rel h.2 hr
    have h1 := h.1
    unfold intOk at h1
    split at h1
    · rename_i k a
      simp only [Bool.and_eq_true, decide_eq_true_eq] at h1
      obtain ⟨rfl, w1⟩ := h1
      cases hx
      exact ⟨a :: l, rfl, rfl, by simpa using ⟨w1, hw⟩⟩
    · cases h1
theorem mapM_all {α β : Type} {f : α → Option β} {y : α → β} : ∀ {L : List α}, (∀ i ∈ L, f i = some (y i)) → L.mapM f = some (L.map y)
  | [], _ => rfl
  | a :: L, h => by
    rw [List.mapM_cons, h a (by simp), mapM_all (L := L) fun i hi => h i (by simp [hi])]
    rfl
theorem keyOf_ints {kt e : TypeId} {n : Nat} {q : IntKind} (A : WideMaps.ArrKey P kt e n) (he : P.underlying e = some (.int q)) (hsz : ∃ m, P.types.size = m + 1) {l : List Int} (hl : l.length = n) (hw : ∀ a ∈ l, (Lit.int q a).wf = true) :
    keyOf P kt (.agg (l.map (Value.int q)).toArray) = some (.string (keyBytes (l.map (.int q)))) := by
  have hkt := A.keyType hsz
  obtain ⟨m, hm⟩ := hsz
  unfold keyOf
  simp only [A.hu]
  rw [if_pos (by simp [hkt, Value.formed, A.hu, A.size, hl]), hm]
  unfold Program.keyLits
  simp only [A.hu, Value.cells]
  rw [if_pos (by simp [A.size, hl])]
  have hall : ∀ i ∈ List.range n, P.keyLits (m + 1) e ((((l.map (Value.int q)).toArray.toList).drop (i * P.cellsOf e)).take (P.cellsOf e)) = some [Lit.int q (l.getD i 0)] := by
    intro i hi
    have hi := List.mem_range.1 hi
    have hd : ((l.map (Value.int q)).drop i).take 1 = [Value.int q (l.getD i 0)] := by
      rw [List.drop_eq_getElem_cons (by simpa [hl] using hi)]
      simp [List.getD_eq_getElem?_getD, show i < l.length by omega]
    simp only [A.one, Nat.mul_one, hd]
    simp [Program.keyLits, he, List.getD_eq_getElem?_getD, show i < l.length by omega, hw]
  rw [mapM_all hall]
  simp only [Option.map_some]
  have hfl : ∀ L : List Nat, (L.map fun i => [Lit.int q (l.getD i 0)]).flatten = L.map fun i => Lit.int q (l.getD i 0) := by
    intro L
    induction L with
    | nil => rfl
    | cons i L ih => rw [List.map_cons, List.flatten_cons, ih]; rfl
  have : ((List.range n).map fun i => [Lit.int q (l.getD i 0)]).flatten = l.map (.int q) := by
    rw [hfl]
    subst hl
    apply List.ext_getElem
    · simp
    · intro i h1 h2
      simp [List.getD_eq_getElem?_getD, show i < l.length by simpa using h1]
  rw [this]
theorem relVs_map {q : IntKind} : ∀ {l : List Int} {cs : List Value}, RelVs σ (l.map (.int q)) cs → cs = l.map (.int q)
  | [], _, .nil => rfl
  | a :: l, _, .cons hx hr => by cases hx; rw [relVs_map hr]; rfl
theorem sameKeyW_sound {q : IntKind} : ∀ {ys : List AV} {l : List Int} {b : Bool}, sameKeyW q (l.map (.int q)) ys = some b → ∃ l2 : List Int, ys = l2.map (.int q) ∧ l2.length = l.length ∧ (∀ a ∈ l2, (Lit.int q a).wf = true) ∧ (b = true ↔ l = l2)
  | [], [], b, h => by simp [sameKeyW] at h; subst h; exact ⟨[], rfl, rfl, by simp, by simp⟩
  | [], _ :: _, b, h => by simp [sameKeyW] at h
  | y :: ys, [], b, h => by simp [sameKeyW] at h
  | y :: ys, a :: l, b, h => by
    rw [List.map_cons] at h
    unfold sameKeyW at h
    split at h
    · rename_i h0 _; cases h0
    · rename_i k a' xs' k' b' ys' e1 e2
      rw [List.cons.injEq, AV.int.injEq] at e1
      obtain ⟨⟨rfl, rfl⟩, rfl⟩ := e1
      rw [List.cons.injEq] at e2
      obtain ⟨rfl, rfl⟩ := e2
      split at h
      · rename_i hc
        obtain ⟨r, hr, rfl⟩ := Option.map_eq_some_iff.1 h
        obtain ⟨l2, rfl, g2, g3, g4⟩ := sameKeyW_sound hr
        obtain ⟨-, rfl, w1⟩ := hc
        refine ⟨b' :: l2, rfl, by simp [g2], by simpa using ⟨w1, g3⟩, ?_⟩
        simp [← g4]
      · cases h
    · cases h
theorem agg_rel {q : IntKind} {l : List Int} {c : Value} (h : RelV σ (.agg (l.map (.int q))) c) : c = .agg (l.map (Value.int q)).toArray := by
  cases h with
  | agg h =>
    have := relVs_map h
    congr 1
    apply Array.ext'
    rw [this]
section
variable {kt e : TypeId} {n : Nat} {q : IntKind} (A : WideMaps.ArrKey P kt e n) (he : P.underlying e = some (.int q)) (hsz : ∃ m, P.types.size = m + 1)
include A he hsz
theorem equal_W {l l2 : List Int} (hl : l.length = n) (hw : ∀ a ∈ l, (Lit.int q a).wf = true) (hl2 : l2.length = n) (hw2 : ∀ a ∈ l2, (Lit.int q a).wf = true) {b : Bool} (hb : b = true ↔ l = l2) (w : World) :
    (Op.equal kt (.agg (l.map (Value.int q)).toArray) (.agg (l2.map (Value.int q)).toArray)).run P w = .ok b w := by
  have k1 := keyOf_ints A he hsz hl hw
  have k2 := keyOf_ints A he hsz hl2 hw2
  obtain ⟨r, h1, h2⟩ := run_equal_deep w (m := 2) (by omega) (A.at 0) A.wide k1 k2
  rw [h1]
  have : r = b := by
    rw [Bool.eq_iff_iff, h2, hb]
    constructor
    · intro hh
      rw [hh] at k1
      have := A.law.inj k1 k2
      have h3 : (l.map (Value.int q)) = l2.map (Value.int q) := by
        have := congrArg (fun v => match v with | Value.agg cs => cs.toList | _ => []) this
        simpa using this
      have inj : ∀ {a b : List Int}, a.map (Value.int q) = b.map (Value.int q) → a = b := by
        intro a
        induction a with
        | nil => intro b hb; cases b with
          | nil => rfl
          | cons y b => cases hb
        | cons x a ih => intro b hb; cases b with
          | nil => cases hb
          | cons y b =>
            simp only [List.map_cons, List.cons.injEq, Value.int.injEq, true_and] at hb
            rw [hb.1, ih hb.2]
      exact inj h3
    · intro hh; rw [hh]
  rw [this]
theorem mfindW_sound {l : List Int} (hl : l.length = n) (hw : ∀ a ∈ l, (Lit.int q a).wf = true) : ∀ {L : List (AV × AV)} {es : List MapEntry} {r : Option AV} (i : Nat), mfindW q (l.map (.int q)) L = some r → RelEs σ L es →
    ∃ r', (∀ w, (Instr.findAsking kt (.agg (l.map (Value.int q)).toArray) es i).run P w = .ok r' w) ∧ match r, r' with
      | some v, some (_, u) => RelV σ v u
      | none, none => True
      | _, _ => False
  | [], [], r, i, h, _ => by simp [mfindW] at h; subst h; exact ⟨none, fun w => by simp [Instr.findAsking], trivial⟩
  | [], _ :: _, _, _, _, h => h.elim
  | _ :: _, [], _, _, _, h => h.elim
  | (k, v) :: L, x :: es, r, i, h, hr => by
    obtain ⟨h1, h2, h3⟩ := hr
    unfold mfindW at h
    split at h
    · rename_i h0; cases h0
    · rename_i ys v' L' h0
      rw [List.cons.injEq, Prod.mk.injEq] at h0
      obtain ⟨⟨rfl, rfl⟩, rfl⟩ := h0
      cases hs : sameKeyW q (l.map (.int q)) ys with
      | none => rw [hs] at h; cases h
      | some b =>
        obtain ⟨l2, rfl, g2, g3, g4⟩ := sameKeyW_sound hs
        have hk := agg_rel h1
        have hq := fun w => equal_W A he hsz hl hw (g2.trans hl) g3 g4 w
        rw [← hk] at hq
        rw [hs] at h
        cases b with
        | true =>
          cases h
          exact ⟨some (i, x.val), fun w => by simp [Instr.findAsking, hq], h2⟩
        | false =>
          obtain ⟨r', f1, f2⟩ := mfindW_sound hl hw (i + 1) h h3
          exact ⟨r', fun w => by simp [Instr.findAsking, hq, f1], f2⟩
    · cases h
theorem mputW_sound {l : List Int} {v : AV} {u : Value} {clock : Nat} (hv : RelV σ v u) (hx : RelV σ (.agg (l.map (.int q))) (.agg (l.map (Value.int q)).toArray)) (hl : l.length = n) (hw : ∀ a ∈ l, (Lit.int q a).wf = true) : ∀ {L L' : List (AV × AV)} {es : List MapEntry} (i : Nat), mputW q (l.map (.int q)) v L = some L' → RelEs σ L es →
    ((∀ w, (Instr.findAsking kt (.agg (l.map (Value.int q)).toArray) es i).run P w = .ok none w) ∧ RelEs σ L' (es ++ [{ key := .agg (l.map (Value.int q)).toArray, val := u, born := clock }])) ∨
    ∃ j e, (∀ w, (Instr.findAsking kt (.agg (l.map (Value.int q)).toArray) es i).run P w = .ok (some (i + j, e.val)) w) ∧ es[j]? = some e ∧ e.key = .agg (l.map (Value.int q)).toArray ∧ RelEs σ L' (es.modify j fun e => { e with key := .agg (l.map (Value.int q)).toArray, val := u })
  | [], L', [], i, h, _ => by simp [mputW] at h; subst h; exact .inl ⟨fun w => by simp [Instr.findAsking], hx, hv, trivial⟩
  | [], _, _ :: _, _, _, h => h.elim
  | _ :: _, _, [], _, _, h => h.elim
  | (k, y) :: L, L', x :: es, i, h, hr => by
    obtain ⟨h1, h2, h3⟩ := hr
    unfold mputW at h
    split at h
    · rename_i h0; cases h0
    · rename_i ys y' L2 h0
      rw [List.cons.injEq, Prod.mk.injEq] at h0
      obtain ⟨⟨rfl, rfl⟩, rfl⟩ := h0
      cases hs : sameKeyW q (l.map (.int q)) ys with
      | none => rw [hs] at h; cases h
      | some b =>
        obtain ⟨l2, rfl, g2, g3, g4⟩ := sameKeyW_sound hs
        have hk := agg_rel h1
        have hq := fun w => equal_W A he hsz hl hw (g2.trans hl) g3 g4 w
        rw [← hk] at hq
        rw [hs] at h
        cases b with
        | true =>
          cases h
          exact .inr ⟨0, x, fun w => by simp [Instr.findAsking, hq], rfl, by rw [hk, g4.1 rfl], hx, hv, h3⟩
        | false =>
          obtain ⟨L3, g, rfl⟩ := Option.map_eq_some_iff.1 h
          rcases mputW_sound (clock := clock) hv hx hl hw (i + 1) g h3 with ⟨a1, a2⟩ | ⟨j, e', a1, a2, a3, a4⟩
          · exact .inl ⟨fun w => by simp [Instr.findAsking, hq, a1], h1, h2, a2⟩
          · exact .inr ⟨j + 1, e', fun w => by simp [Instr.findAsking, hq, a1]; omega, by simpa using a2, a3, by simpa [List.modify_succ_cons] using ⟨h1, h2, a4⟩⟩
    · cases h
end
theorem aLook_sound (S : Sim base w0 σ H w) {t : TypeId} {m x v : AV} {a c : Value} {ok : Bool} (h : aLook P H t m x ok = some v) (hm : RelV σ m a) (hx : RelV σ x c) :
    ∃ u, RelV σ v u ∧ (Instr.lookup t a c ok).run P w = .ok u w := by
  unfold aLook at h
  split at h
  case h_2 => cases h
  rename_i d z ht
  obtain ⟨kt, et, zc, hu, hk, hz, hzr⟩ := mapT_some ht
  split at h
  case isTrue =>
    rename_i hok
    have hkey := keyOkA_key hok hx
    refine aLookF_sound S h hm hu hz (hzr σ) (fun w em => MapKept.run_checkKey hk hkey em 9999) (fun hq g4 => ?_) (fun w => MapKept.run_findKey hk rfl)
    obtain ⟨r', f1, f2⟩ := mfind_sound hx 0 hq g4
    exact ⟨r', fun w => MapKept.run_findKey hk f1, f2⟩
  split at h
  case h_2 => cases h
  rename_i n q xs ha hneg
  split at h
  case isFalse => cases h
  rename_i hok
  obtain ⟨kt', et', e, hu', A, he, hsz⟩ := arrT_some ha
  rw [hu] at hu'
  cases hu'
  simp only [keyOkW, Bool.and_eq_true, decide_eq_true_eq] at hok
  cases hx with
  | agg hxs =>
  rename_i cs
  obtain ⟨l, rfl, hc, hw⟩ := intsOk_rel hok.2 hxs
  have hl : l.length = n := by simpa using hok.1
  have hcs : cs = (l.map (Value.int q)).toArray := by apply Array.ext'; rw [hc]
  subst hcs
  have hko := keyOf_ints A he hsz hl hw
  have hfk := fun (w : World) es => run_findKey_eq w (P := P) A.wide (.agg (l.map (Value.int q)).toArray) es
  refine aLookF_sound S h hm hu hz (hzr σ) (fun w em => A.law.check w em hko) (fun hq g4 => ?_) (fun w => by rw [hfk]; simp [Instr.findAsking])
  obtain ⟨r', f1, f2⟩ := mfindW_sound A he hsz hl hw 0 hq g4
  exact ⟨r', fun w => by rw [hfk]; exact f1 w, f2⟩
/-! ### A new map -/
def Inj.addMap (σ : Inj) (r b : Nat) : Inj := { σ with mapAt := fun x => if x = r then some b else σ.mapAt x }
theorem Sim.newMap (S : Sim base w0 σ H w) : σ.le (σ.addMap H.length w.heap.size) ∧ Sim base w0 (σ.addMap H.length w.heap.size) (H ++ [.map []]) (w.alloc (.map #[] 0)) := by
  have hle : σ.le (σ.addMap H.length w.heap.size) := by
    refine ⟨fun b r d n h => ⟨h, Nat.le_refl _, fun _ => rfl⟩, fun _ _ _ _ _ _ => rfl, fun r b h => ?_, fun b k h => h⟩
    have := (S.mlt r b h).1
    simp only [Inj.addMap]
    rw [if_neg (by omega)]
    exact h
  have hk := (KeepsOthers.alloc w (.map #[] 0)).same
  have hold : ∀ b, b < w.heap.size → (w.alloc (.map #[] 0)).heap[b]? = w.heap[b]? := fun b hb => Below.heap_alloc _ _ _ hb
  have hsz : (w.alloc (.map #[] 0)).heap.size = w.heap.size + 1 := by simp
  have hS := S.size
  have hget : ∀ (q : Nat) (o : AObj), (H ++ [AObj.map []])[q]? = some o → (q = H.length ∧ o = .map []) ∨ (q < H.length ∧ H[q]? = some o) := by
    intro q o h
    rcases Nat.lt_or_ge q H.length with hq | hq
    · rw [List.getElem?_append_left hq] at h; exact .inr ⟨hq, h⟩
    · rw [List.getElem?_append_right hq] at h
      rcases Nat.lt_or_ge (q - H.length) 1 with h1 | h1
      · have e : q - H.length = 0 := by omega
        rw [e] at h; simp at h
        exact .inl ⟨by omega, h.symm⟩
      · rw [List.getElem?_eq_none (by simpa using h1)] at h; cases h
  refine ⟨hle, S.below.alloc S.size _, by omega, fun b r d n h => ?_, fun r b h => ?_, fun r c v s ro h => ?_, fun r l h => ?_, fun r g c h => ?_, fun r s pe L2 h => ?_, fun b k h => ?_, fun r r' b h h' => ?_, fun r s pos h => ?_⟩
  · have := S.lt b r d n h; rw [List.length_append]; exact ⟨by omega, by omega⟩
  · rw [List.length_append]
    simp only [Inj.addMap] at h
    split at h
    · rename_i e; cases h; simp; omega
    · have := S.mlt r b h; exact ⟨by omega, by omega⟩
  · rcases hget _ _ h with ⟨-, e⟩ | ⟨-, h⟩
    · cases e
    have R := S.rows r c v s ro h
    refine ⟨R.ver, R.fin, ?_, fun b d n hf => ?_⟩
    · obtain ⟨d, n, h1, h2⟩ := R.new
      exact ⟨d, n, h1, fun p u hp => (h2 p u hp).mono hle (fun k _ => World.cell?_of_block (w := w) (hold _ (S.lt _ _ _ _ h1).2))⟩
    · obtain ⟨g0, ⟨c1, e1, f1, g1, g2, g3⟩, g4⟩ := R.all b d n hf
      have hb := (S.lt _ _ _ _ hf).2
      exact ⟨g0, ⟨c1, e1, f1, by rw [hold _ hb]; exact g1, g2, g3⟩, fun p u hp hu => (g4 p u hp hu).mono hle (fun k _ => World.cell?_of_block (w := w) (hold _ hb))⟩
  · rcases hget _ _ h with ⟨rfl, e⟩ | ⟨-, h⟩
    · cases e
      exact ⟨w.heap.size, #[], 0, by simp [Inj.addMap], S.size, World.alloc_heap_new _ _, trivial⟩
    obtain ⟨b, es, clock, g1, g2, g3, g4⟩ := (S.maps r l h).at_
    exact ⟨b, es, clock, hle.map _ _ g1, g2, by rw [hold _ (S.mlt _ _ g1).2]; exact g3, g4.mono hle⟩
  · rcases hget _ _ h with ⟨-, e⟩ | ⟨-, h⟩
    · cases e
    · exact (S.gvars r g c h).mono hle
  · rcases hget _ _ h with ⟨-, e⟩ | ⟨-, h⟩
    · cases e
    · exact (S.loops _ _ _ _ h).mono hle hk
  · exact ⟨(S.oths b k h).1, (S.oths b k h).2.mono hk⟩
  · simp only [Inj.addMap] at h h'
    split at h
    · rename_i e
      cases h
      split at h'
      · rename_i e'; rw [e, e']
      · have := (S.mlt _ _ h').2; omega
    · split at h'
      · cases h'
        have := (S.mlt _ _ h).2; omega
      · exact S.minj _ _ _ h h'
  · rcases hget _ _ h with ⟨-, e⟩ | ⟨-, h⟩
    · cases e
    · exact (S.iters _ _ _ h).mono hle hk

/-- A map's entries turn. -/
theorem Sim.setMap (S : Sim base w0 σ H w) {r b : Nat} {l l' : List (AV × AV)} {es es' : Array MapEntry} {clock clock' : Nat} (hr : H[r]? = some (.map l)) (hb : σ.mapAt r = some b) (hbase : base ≤ b) (hh : w.heap[b]? = some (.map es clock)) (hE : RelEs σ l' es'.toList) :
    Sim base w0 σ (H.set r (.map l')) (w.putObj b (.map es' clock')) := by
  have hlt := (Array.getElem?_eq_some_iff.1 hh).1
  have hrl := (List.getElem?_eq_some_iff.1 hr).1
  have hset : ∀ (q : Nat) (o : AObj), (H.set r (.map l'))[q]? = some o → (q = r ∧ o = .map l') ∨ (q ≠ r ∧ H[q]? = some o) := by
    intro q o h
    rw [List.getElem?_set] at h
    split at h
    · rename_i e; subst e; simp at h; exact .inl ⟨rfl, h.symm⟩
    · rename_i hne; exact .inr ⟨fun e => hne e.symm, h⟩
  have hne : ∀ {k : Nat} {c : Array Value} {e : TypeId} {fz : Nat × Nat}, w.heap[k]? = some (.cells c e fz) → k ≠ b := by
    rintro k c e fz hk rfl
    rw [hh] at hk; cases hk
  have hother : ∀ {k : Nat} {o : Obj}, k ≠ b → (w.putObj b o).heap[k]? = w.heap[k]? := fun h => World.putObj_heap_other h
  have hcell : ∀ {k : Nat} (o : Obj), k ≠ b → ∀ q : Nat, (w.putObj b o).cell? ⟨k, q, none⟩ = w.cell? ⟨k, q, none⟩ := fun o h q => World.cell?_of_block (w := w) (World.putObj_heap_other h)
  refine ⟨S.below.trans ⟨rfl, rfl, rfl, by simp, fun k hk => World.putObj_heap_other (by omega)⟩, by rw [World.putObj_size]; exact S.size, fun k r d n h => ?_, fun r k h => ?_, fun r2 c v s ro h => ?_, fun r2 l2 h => ?_, fun r2 g c h => ?_, fun r2 s pe L h => ?_, fun k x h => ?_, S.minj, fun r2 s pos h => ?_⟩
  · rw [World.putObj_size, List.length_set]; exact S.lt k r d n h
  · rw [World.putObj_size, List.length_set]; exact S.mlt r k h
  · rcases hset _ _ h with ⟨-, e⟩ | ⟨-, h⟩
    · cases e
    have R := S.rows r2 c v s ro h
    refine ⟨R.ver, R.fin, ?_, fun k d n hf => ?_⟩
    · obtain ⟨d, n, h1, h2⟩ := R.new
      obtain ⟨-, ⟨c1, e1, f1, g1, -, -⟩, -⟩ := R.all _ _ _ h1
      exact ⟨d, n, h1, fun p u hp => (h2 p u hp).mono (.refl σ) (fun q _ => hcell _ (hne g1) q)⟩
    · obtain ⟨g0, ⟨c1, e1, f1, g1, g2, g3⟩, g4⟩ := R.all k d n hf
      exact ⟨g0, ⟨c1, e1, f1, by rw [hother (hne g1)]; exact g1, g2, g3⟩, fun p u hp hu => (g4 p u hp hu).mono (.refl σ) (fun q _ => hcell _ (hne g1) q)⟩
  · rcases hset _ _ h with ⟨rfl, e⟩ | ⟨hn, h⟩
    · cases e
      exact ⟨b, es', clock', hb, hbase, World.putObj_heap_same hlt, hE⟩
    · obtain ⟨k, es2, c2, g1, g2, g3, g4⟩ := (S.maps r2 l2 h).at_
      refine ⟨k, es2, c2, g1, g2, ?_, g4⟩
      rw [hother (fun e => hn (S.minj _ _ _ (by rw [e] at g1; exact g1) hb))]
      exact g3
  · rcases hset _ _ h with ⟨-, e⟩ | ⟨-, h⟩
    · cases e
    · exact S.gvars r2 g c h
  · rcases hset _ _ h with ⟨-, e⟩ | ⟨hn, h⟩
    · cases e
    · obtain ⟨k, R2, g1, g2, g3, g4⟩ := (S.loops r2 s pe L h).at_
      refine ⟨k, R2, g1, g2, ?_, g4⟩
      rw [hother (fun e => hn (S.minj _ _ _ (by rw [e] at g1; exact g1) hb))]
      exact g3
  · obtain ⟨g1, g2⟩ := S.oths k x h
    refine ⟨g1, ?_⟩
    have hkb : k ≠ b := by
      rintro rfl
      cases x with
      | false => have : w.heap[k]? = some (.deferred (some [])) := g2; rw [hh] at this; cases this
      | true => obtain ⟨R, g2⟩ := g2; rw [hh] at g2; cases g2
    cases x with
    | false => exact (hother hkb).trans g2
    | true => obtain ⟨R, g2⟩ := g2; exact ⟨R, (hother hkb).trans g2⟩
  · rcases hset _ _ h with ⟨-, e⟩ | ⟨-, h⟩
    · cases e
    · obtain ⟨k, h1, h2, h3⟩ := S.iters r2 s pos h
      exact ⟨k, h1, h2, (hother (fun e => by subst e; rw [h3] at hh; cases hh)).trans h3⟩

theorem aMapMake_sound (S : Sim base w0 σ H w) {t : TypeId} {r : Option AV} {rc : Option Value} {v : Option AV} {H' : AH} (h : aMapMake P t r H = some (v, H')) (hr : match r, rc with | none, none => True | some a, some b => RelV σ a b | _, _ => False) :
    ∃ c w' σ', (Instr.makeMap t rc).run P w = .ok c w' ∧ σ.le σ' ∧ Sim base w0 σ' H' w' ∧ NextOk σ' v (.value c) := by
  unfold aMapMake at h
  split at h
  case isFalse => cases h
  rename_i ht
  obtain ⟨⟨d, z⟩, ht⟩ := Option.isSome_iff_exists.1 ht
  obtain ⟨kt, et, zc, hu, hk, hz, hzr⟩ := mapT_some ht
  obtain ⟨h1, h2⟩ := S.newMap
  split at h
  · cases h
    cases rc with
    | some y => exact hr.elim
    | none => exact ⟨.map (some w.heap.size), _, _, rfl, h1, h2, .map (by simp [Inj.addMap])⟩
  · cases h
    cases rc with
    | none => exact hr.elim
    | some y =>
      cases hr
      exact ⟨.map (some w.heap.size), _, _, by simp [Instr.makeMap, run_underlying hu, asInt, asIntOf, Result.andThen], h1, h2, .map (by simp [Inj.addMap])⟩
  · cases h

theorem aMapPut_sound (S : Sim base w0 σ H w) {t : TypeId} {m x v : AV} {a c u : Value} {H' : AH} (h : aMapPut P H t m x v = some H') (hm : RelV σ m a) (hx : RelV σ x c) (hv : RelV σ v u) :
    ∃ w', (Instr.mapUpdate t a c u).run P w = .ok () w' ∧ Sim base w0 σ H' w' := by
  unfold aMapPut at h
  split at h
  case h_2 => cases h
  rename_i d z r ht
  obtain ⟨kt, et, zc, hu, hk, hz, hzr⟩ := mapT_some ht
  split at h
  case isTrue =>
    rename_i hok
    have hkey := keyOkA_key hok hx
    obtain ⟨l, hl, h⟩ := Option.bind_eq_some_iff.1 h
    obtain ⟨l', hq, rfl⟩ := Option.map_eq_some_iff.1 h
    obtain ⟨b, es, clock, g1, g2, g3, g4⟩ := (S.maps r l (mrow_some hl)).at_
    cases hm with
    | map hmb =>
    rw [g1] at hmb; cases hmb
    rcases mput_sound (clock := clock) hx hv 0 hq g4 with ⟨a1, a2⟩ | ⟨j, e, a1, a2, a3, a4⟩
    · refine ⟨w.putObj b (.map (es.push { key := c, val := u, born := clock }) (clock + 1)), ?_, S.setMap (mrow_some hl) g1 g2 g3 (by rw [Array.toList_push]; exact a2)⟩
      simp [Instr.mapUpdate, run_underlying hu, MapKept.run_getObj_map g3, MapKept.run_checkKey hk hkey, MapKept.run_findKey hk a1, MapKept.run_setObj_map _ g3, World.putObj]
    · have hj : es[j]? = some e := by rw [← Array.getElem?_toList]; exact a2
      refine ⟨w.putObj b (.map (es.modify j fun e => { e with key := c, val := u }) clock), ?_, S.setMap (mrow_some hl) g1 g2 g3 (by rw [Array.toList_modify]; exact a4)⟩
      simp [Instr.mapUpdate, run_underlying hu, MapKept.run_getObj_map g3, MapKept.run_checkKey hk hkey, MapKept.run_findKey hk a1, MapKept.run_setObj_map _ g3, World.putObj, hj, a3, MapKept.run_keyThatStays hkey]
  split at h
  case h_2 => cases h
  rename_i n q xs ha hneg
  split at h
  case isFalse => cases h
  rename_i hok
  obtain ⟨kt', et', e0, hu', A, he, hsz⟩ := arrT_some ha
  rw [hu] at hu'
  cases hu'
  simp only [keyOkW, Bool.and_eq_true, decide_eq_true_eq] at hok
  have hx0 := hx
  cases hx with
  | agg hxs =>
  rename_i cs
  obtain ⟨y, rfl, hc, hw⟩ := intsOk_rel hok.2 hxs
  have hyl : y.length = n := by simpa using hok.1
  have hcs : cs = (y.map (Value.int q)).toArray := by apply Array.ext'; rw [hc]
  subst hcs
  have hko := keyOf_ints A he hsz hyl hw
  have hfk := fun (w : World) es => run_findKey_eq w (P := P) A.wide (.agg (y.map (Value.int q)).toArray) es
  have hck := fun (w : World) em => A.law.check w em hko
  have hst := fun (w : World) => A.law.stays w hko
  obtain ⟨l, hl, h⟩ := Option.bind_eq_some_iff.1 h
  obtain ⟨l', hq, rfl⟩ := Option.map_eq_some_iff.1 h
  obtain ⟨b, es, clock, g1, g2, g3, g4⟩ := (S.maps r l (mrow_some hl)).at_
  cases hm with
  | map hmb =>
  rw [g1] at hmb; cases hmb
  rcases mputW_sound A he hsz (clock := clock) hv hx0 hyl hw 0 hq g4 with ⟨a1, a2⟩ | ⟨j, e, a1, a2, a3, a4⟩
  · generalize (Value.agg (y.map (Value.int q)).toArray) = c at *
    refine ⟨w.putObj b (.map (es.push { key := c, val := u, born := clock }) (clock + 1)), ?_, S.setMap (mrow_some hl) g1 g2 g3 (by rw [Array.toList_push]; exact a2)⟩
    simp [Instr.mapUpdate, run_underlying hu, MapKept.run_getObj_map g3, hck, hfk, a1, MapKept.run_setObj_map _ g3, World.putObj]
  · generalize (Value.agg (y.map (Value.int q)).toArray) = c at *
    have hj : es[j]? = some e := by rw [← Array.getElem?_toList]; exact a2
    refine ⟨w.putObj b (.map (es.modify j fun e => { e with key := c, val := u }) clock), ?_, S.setMap (mrow_some hl) g1 g2 g3 (by rw [Array.toList_modify]; exact a4)⟩
    simp [Instr.mapUpdate, run_underlying hu, MapKept.run_getObj_map g3, hck, hfk, a1, MapKept.run_setObj_map _ g3, World.putObj, hj, a3, hst]
end

/-! ### A range over a text -/
section
variable {P : Program} {base : Nat} {w0 w w' : World} {σ σ' : Inj} {H H' : AH}
theorem Sim.newIter (S : Sim base w0 σ H w) (s : List UInt8) : σ.le (σ.addMap H.length w.heap.size) ∧ Sim base w0 (σ.addMap H.length w.heap.size) (H ++ [.iter s 0]) (w.alloc (.stringIter ⟨s.toArray⟩ 0)) := by
  have hle : σ.le (σ.addMap H.length w.heap.size) := by
    refine ⟨fun b r d n h => ⟨h, Nat.le_refl _, fun _ => rfl⟩, fun _ _ _ _ _ _ => rfl, fun r b h => ?_, fun b k h => h⟩
    have := (S.mlt r b h).1
    simp only [Inj.addMap]
    rw [if_neg (by omega)]
    exact h
  have hk := (KeepsOthers.alloc w (.stringIter ⟨s.toArray⟩ 0)).same
  have hold : ∀ b, b < w.heap.size → (w.alloc (.stringIter ⟨s.toArray⟩ 0)).heap[b]? = w.heap[b]? := fun b hb => Below.heap_alloc _ _ _ hb
  have hsz : (w.alloc (.stringIter ⟨s.toArray⟩ 0)).heap.size = w.heap.size + 1 := by simp
  have hS := S.size
  have hget : ∀ (q : Nat) (o : AObj), (H ++ [AObj.iter s 0])[q]? = some o → (q = H.length ∧ o = .iter s 0) ∨ (q < H.length ∧ H[q]? = some o) := by
    intro q o h
    rcases Nat.lt_or_ge q H.length with hq | hq
    · rw [List.getElem?_append_left hq] at h; exact .inr ⟨hq, h⟩
    · rw [List.getElem?_append_right hq] at h
      rcases Nat.lt_or_ge (q - H.length) 1 with h1 | h1
      · have e : q - H.length = 0 := by omega
        rw [e] at h; simp at h
        exact .inl ⟨by omega, h.symm⟩
      · rw [List.getElem?_eq_none (by simpa using h1)] at h; cases h
  refine ⟨hle, S.below.alloc S.size _, by omega, fun b r d n h => ?_, fun r b h => ?_, fun r c v s ro h => ?_, fun r l h => ?_, fun r g c h => ?_, fun r s pe L2 h => ?_, fun b k h => ?_, fun r r' b h h' => ?_, fun r s pos h => ?_⟩
  · have := S.lt b r d n h; rw [List.length_append]; exact ⟨by omega, by omega⟩
  · rw [List.length_append]
    simp only [Inj.addMap] at h
    split at h
    · rename_i e; cases h; simp; omega
    · have := S.mlt r b h; exact ⟨by omega, by omega⟩
  · rcases hget _ _ h with ⟨-, e⟩ | ⟨-, h⟩
    · cases e
    have R := S.rows r c v s ro h
    refine ⟨R.ver, R.fin, ?_, fun b d n hf => ?_⟩
    · obtain ⟨d, n, h1, h2⟩ := R.new
      exact ⟨d, n, h1, fun p u hp => (h2 p u hp).mono hle (fun k _ => World.cell?_of_block (w := w) (hold _ (S.lt _ _ _ _ h1).2))⟩
    · obtain ⟨g0, ⟨c1, e1, f1, g1, g2, g3⟩, g4⟩ := R.all b d n hf
      have hb := (S.lt _ _ _ _ hf).2
      exact ⟨g0, ⟨c1, e1, f1, by rw [hold _ hb]; exact g1, g2, g3⟩, fun p u hp hu => (g4 p u hp hu).mono hle (fun k _ => World.cell?_of_block (w := w) (hold _ hb))⟩
  · rcases hget _ _ h with ⟨-, e⟩ | ⟨-, h⟩
    · cases e
    obtain ⟨b, es, clock, g1, g2, g3, g4⟩ := (S.maps r l h).at_
    exact ⟨b, es, clock, hle.map _ _ g1, g2, by rw [hold _ (S.mlt _ _ g1).2]; exact g3, g4.mono hle⟩
  · rcases hget _ _ h with ⟨-, e⟩ | ⟨-, h⟩
    · cases e
    · exact (S.gvars r g c h).mono hle
  · rcases hget _ _ h with ⟨-, e⟩ | ⟨-, h⟩
    · cases e
    · exact (S.loops _ _ _ _ h).mono hle hk
  · exact ⟨(S.oths b k h).1, (S.oths b k h).2.mono hk⟩
  · simp only [Inj.addMap] at h h'
    split at h
    · rename_i e
      cases h
      split at h'
      · rename_i e'; rw [e, e']
      · have := (S.mlt _ _ h').2; omega
    · split at h'
      · cases h'
        have := (S.mlt _ _ h).2; omega
      · exact S.minj _ _ _ h h'
  · rcases hget _ _ h with ⟨rfl, e⟩ | ⟨-, h⟩
    · cases e
      exact ⟨w.heap.size, by simp [Inj.addMap], S.size, World.alloc_heap_new _ _⟩
    · exact (S.iters _ _ _ h).mono hle hk

/-- An iterator goes on. -/
theorem Sim.setIter (S : Sim base w0 σ H w) {r b : Nat} {s : List UInt8} {pos : Nat} (hr : H[r]? = some (.iter s pos)) (hb : σ.mapAt r = some b) (hbase : base ≤ b) (hh : w.heap[b]? = some (.stringIter ⟨s.toArray⟩ pos)) (pos' : Nat) :
    Sim base w0 σ (H.set r (.iter s pos')) (w.putObj b (.stringIter ⟨s.toArray⟩ pos')) := by
  have hlt := (Array.getElem?_eq_some_iff.1 hh).1
  have hrl := (List.getElem?_eq_some_iff.1 hr).1
  have hset : ∀ (q : Nat) (o : AObj), (H.set r (.iter s pos'))[q]? = some o → (q = r ∧ o = .iter s pos') ∨ (q ≠ r ∧ H[q]? = some o) := by
    intro q o h
    rw [List.getElem?_set] at h
    split at h
    · rename_i e; subst e; simp at h; exact .inl ⟨rfl, h.symm⟩
    · rename_i hne; exact .inr ⟨fun e => hne e.symm, h⟩
  have hne : ∀ {k : Nat} {c : Array Value} {e : TypeId} {fz : Nat × Nat}, w.heap[k]? = some (.cells c e fz) → k ≠ b := by
    rintro k c e fz hk rfl
    rw [hh] at hk; cases hk
  have hother : ∀ {k : Nat} {o : Obj}, k ≠ b → (w.putObj b o).heap[k]? = w.heap[k]? := fun h => World.putObj_heap_other h
  have hcell : ∀ {k : Nat} (o : Obj), k ≠ b → ∀ q : Nat, (w.putObj b o).cell? ⟨k, q, none⟩ = w.cell? ⟨k, q, none⟩ := fun o h q => World.cell?_of_block (w := w) (World.putObj_heap_other h)
  refine ⟨S.below.trans ⟨rfl, rfl, rfl, by simp, fun k hk => World.putObj_heap_other (by omega)⟩, by rw [World.putObj_size]; exact S.size, fun k r d n h => ?_, fun r k h => ?_, fun r2 c v s ro h => ?_, fun r2 l2 h => ?_, fun r2 g c h => ?_, fun r2 s pe L h => ?_, fun k x h => ?_, S.minj, fun r2 s2 pos2 h => ?_⟩
  · rw [World.putObj_size, List.length_set]; exact S.lt k r d n h
  · rw [World.putObj_size, List.length_set]; exact S.mlt r k h
  · rcases hset _ _ h with ⟨-, e⟩ | ⟨-, h⟩
    · cases e
    have R := S.rows r2 c v s ro h
    refine ⟨R.ver, R.fin, ?_, fun k d n hf => ?_⟩
    · obtain ⟨d, n, h1, h2⟩ := R.new
      obtain ⟨-, ⟨c1, e1, f1, g1, -, -⟩, -⟩ := R.all _ _ _ h1
      exact ⟨d, n, h1, fun p u hp => (h2 p u hp).mono (.refl σ) (fun q _ => hcell _ (hne g1) q)⟩
    · obtain ⟨g0, ⟨c1, e1, f1, g1, g2, g3⟩, g4⟩ := R.all k d n hf
      exact ⟨g0, ⟨c1, e1, f1, by rw [hother (hne g1)]; exact g1, g2, g3⟩, fun p u hp hu => (g4 p u hp hu).mono (.refl σ) (fun q _ => hcell _ (hne g1) q)⟩
  · rcases hset _ _ h with ⟨rfl, e⟩ | ⟨hn, h⟩
    · cases e
    · obtain ⟨k, es2, c2, g1, g2, g3, g4⟩ := (S.maps r2 l2 h).at_
      refine ⟨k, es2, c2, g1, g2, ?_, g4⟩
      rw [hother (fun e => hn (S.minj _ _ _ (by rw [e] at g1; exact g1) hb))]
      exact g3
  · rcases hset _ _ h with ⟨-, e⟩ | ⟨-, h⟩
    · cases e
    · exact S.gvars r2 g c h
  · rcases hset _ _ h with ⟨-, e⟩ | ⟨hn, h⟩
    · cases e
    · obtain ⟨k, R2, g1, g2, g3, g4⟩ := (S.loops r2 s pe L h).at_
      refine ⟨k, R2, g1, g2, ?_, g4⟩
      rw [hother (fun e => hn (S.minj _ _ _ (by rw [e] at g1; exact g1) hb))]
      exact g3
  · obtain ⟨g1, g2⟩ := S.oths k x h
    refine ⟨g1, ?_⟩
    have hkb : k ≠ b := by
      rintro rfl
      cases x with
      | false => have : w.heap[k]? = some (.deferred (some [])) := g2; rw [hh] at this; cases this
      | true => obtain ⟨R, g2⟩ := g2; rw [hh] at g2; cases g2
    cases x with
    | false => exact (hother hkb).trans g2
    | true => obtain ⟨R, g2⟩ := g2; exact ⟨R, (hother hkb).trans g2⟩
  · rcases hset _ _ h with ⟨rfl, e⟩ | ⟨hn, h⟩
    · cases e
      exact ⟨b, hb, hbase, World.putObj_heap_same hlt⟩
    · obtain ⟨k, g1, g2, g3⟩ := S.iters r2 s2 pos2 h
      refine ⟨k, g1, g2, ?_⟩
      rw [hother (fun e => hn (S.minj _ _ _ (by rw [e] at g1; exact g1) hb))]
      exact g3

def aRange (P : Program) (H : AH) (t : TypeId) (x : AV) : Option (Option AV × AH) :=
  match P.underlying t, x with
  | some .string, .str s => some (some (.iter H.length), H ++ [.iter s 0])
  | _, _ => none
def aNext (H : AH) (x : AV) (str : Bool) : Option (Option AV × AH) :=
  match x, str with
  | .iter r, true => match H[r]? with
    | some (.iter s pos) =>
      if pos < s.length then some (some (.tuple [.bool true, .int .i64 pos, .int .i32 (Utf8.decode ⟨s.toArray⟩ pos).1]), H.set r (.iter s (pos + (Utf8.decode ⟨s.toArray⟩ pos).2)))
      else some (some (.tuple [.bool false]), H)
    | _ => none
  | _, _ => none

/-! ### Letters -/
theorem dec_ascii {s : List UInt8} {i : Nat} (h : i < s.length) (h2 : s[i].toNat < 128) : Utf8.decode ⟨s.toArray⟩ i = (s[i].toNat, 1) := by
  have e : (⟨s.toArray⟩ : ByteArray).get! i = s[i] := by
    show (s.toArray)[i]! = s[i]
    simp [h]
  unfold Utf8.decode
  simp only [Nat.add_zero, e]
  rw [if_pos h2]
theorem dec_big {s : List UInt8} {i : Nat} (h : i < s.length) (h2 : 128 ≤ s[i].toNat) : 128 ≤ (Utf8.decode ⟨s.toArray⟩ i).1 := by
  have e : (⟨s.toArray⟩ : ByteArray).get! i = s[i] := by
    show (s.toArray)[i]! = s[i]
    simp [h]
  unfold Utf8.decode
  simp only [Nat.add_zero, e]
  rw [if_neg (by omega)]
  simp only [Utf8.runeError]
  repeat' split
  all_goals first | omega | (simp only []; simp_all; omega)
theorem next_end {H : AH} {r : Nat} {s : List UInt8} {i : Nat} (hr : H[r]? = some (.iter s i)) (h : s.length ≤ i) : aNext H (.iter r) true = some (some (.tuple [.bool false]), H) := by
  simp only [aNext, hr]
  rw [if_neg (by omega)]
theorem next_ascii {H : AH} {r : Nat} {s : List UInt8} {i : Nat} (hr : H[r]? = some (.iter s i)) (h : i < s.length) (h2 : s[i].toNat < 128) :
    aNext H (.iter r) true = some (some (.tuple [.bool true, .int .i64 i, .int .i32 (s[i].toNat : Nat)]), H.set r (.iter s (i + 1))) := by
  simp only [aNext, hr]
  rw [if_pos h, dec_ascii h h2]
theorem next_big {H : AH} {r : Nat} {s : List UInt8} {i : Nat} (hr : H[r]? = some (.iter s i)) (h : i < s.length) (h2 : 128 ≤ s[i].toNat) :
    ∃ (c k : Nat), 128 ≤ c ∧ aNext H (.iter r) true = some (some (.tuple [.bool true, .int .i64 i, .int .i32 c]), H.set r (.iter s (i + k))) := by
  refine ⟨(Utf8.decode ⟨s.toArray⟩ i).1, (Utf8.decode ⟨s.toArray⟩ i).2, dec_big h h2, ?_⟩
  simp only [aNext, hr]
  rw [if_pos h]

theorem aRange_sound (S : Sim base w0 σ H w) {t : TypeId} {x : AV} {c : Value} {v : Option AV} {H' : AH} (h : aRange P H t x = some (v, H')) (hx : RelV σ x c) :
    ∃ c' w' σ', (Instr.range t c).run P w = .ok c' w' ∧ σ.le σ' ∧ Sim base w0 σ' H' w' ∧ NextOk σ' v (.value c') := by
  unfold aRange at h
  split at h
  case h_2 => cases h
  rename_i s hu
  cases h
  cases hx
  rename_i b
  obtain ⟨h1, h2⟩ := S.newIter b.data.toList
  exact ⟨.pointer (some ⟨w.heap.size, 0, none⟩), _, _, by simp [Instr.range, run_underlying hu], h1, h2, .iter (by simp [Inj.addMap])⟩

theorem aNext_sound (S : Sim base w0 σ H w) {t : TypeId} {x : AV} {str : Bool} {c : Value} {v : Option AV} {H' : AH} (h : aNext H x str = some (v, H')) (hx : RelV σ x c) :
    ∃ c' w' σ', (Instr.next c str t).run P w = .ok c' w' ∧ σ.le σ' ∧ Sim base w0 σ' H' w' ∧ NextOk σ' v (.value c') := by
  unfold aNext at h
  split at h
  case h_2 => cases h
  rename_i r
  cases hx with
  | iter hb =>
  rename_i b
  split at h
  case h_2 => cases h
  rename_i s pos hr
  obtain ⟨b', g1, g2, g3⟩ := S.iters _ _ _ hr
  rw [hb] at g1; cases g1
  have hsz : (⟨s.toArray⟩ : ByteArray).size = s.length := by simp [ByteArray.size]
  have hget : (getObj b).run P w = .ok (.stringIter ⟨s.toArray⟩ pos) w := by simp [getObj, Sem.run, g3]
  have hset : ∀ o, (setObj b o).run P w = .ok () (w.putObj b o) := fun o => by simp [setObj, Sem.run, g3, World.putObj]
  split at h
  · rename_i hlt
    cases h
    refine ⟨.tuple #[.bool true, .int .i64 pos, .int .i32 (Utf8.decode ⟨s.toArray⟩ pos).1], _, σ, ?_, .refl σ, S.setIter hr hb g2 g3 (pos + (Utf8.decode ⟨s.toArray⟩ pos).2), .tuple (.cons (.bool _) (.cons (.int _ _) (.cons (.int _ _) .nil)))⟩
    simp [Instr.next, hget, hsz, hlt, hset, goInt]
  · rename_i hlt
    cases h
    exact ⟨.tuple #[.bool false], w, σ, by simp [Instr.next, hget, hsz, hlt], .refl σ, S, .tuple (.cons (.bool _) .nil)⟩
end
end Go.Proofs.Ytbimapbcpmeooaa.AX

/- A plain reading of runs: statements about calls, regions and code. -/
namespace Go.Proofs.Ytbimapbcpmeooaa.AX
open Go Go.RowKit

def Ex.conc : Ex → Exit
  | .normal => .normal
  | .exit i => .exit i
  | .goto l => .goto l
  | .ret => .ret

/-- Function f, called with 'args' over rows H, returns, and Q holds of what it returns and of the rows then. -/
def AC (P : Program) (f : FuncId) (args : List AV) (H : AH) (Q : AV → AH → Prop) : Prop :=
  ∀ (base : Nat) (w0 : World) (σ : Inj) (w : World) (cargs : Array Value), Sim base w0 σ H w → RelVs σ args cargs.toList →
    Calls P f cargs w fun en w' => ∃ c σ' v H', en = .returned c ∧ σ.le σ' ∧ Sim base w0 σ' H' w' ∧ RelV σ' v c ∧ Q v H'

/-- Any frame: of a function (none), or of a round of the loop whose record is block l. -/
def fc (ro : Option Nat) : Fence := { Fence.wide with round := ro }
theorem fc_room (ro : Option Nat) (n : Nat) : (fc ro).room n := fun _ h => by simp [fc, Fence.wide] at h
theorem fc_calls {ro : Option Nat} {n : Nat} {P : Program} {f : FuncId} {args : Array Value} {w : World} {R : Ending → World → Prop} (h : Calls P f args w R) : CallsIn (fc ro) n P f args w R :=
  callsIn_wide.2 h

/-- The marks that loops over functions have left. -/
def markOf (D : Nat) : Deferred := { target := .collected D, args := #[] }
def Marks (σ σ' : Inj) (ds : List Deferred) (a : Act) : Prop := ∃ new : List Nat, a.defers = new.map markOf ++ ds ∧ new.Nodup ∧ ∀ D ∈ new, σ'.oth D = some false ∧ σ.oth D = none
theorem Marks.refl (σ σ' : Inj) (a : Act) : Marks σ σ' a.defers a := ⟨[], by simp, by simp, by simp⟩
theorem Marks.trans {σ σ1 σ2 : Inj} {ds : List Deferred} {a1 a2 : Act} (h : Marks σ σ1 ds a1) (hl : σ.le σ1) (hl2 : σ1.le σ2) (k : Marks σ1 σ2 a1.defers a2) : Marks σ σ2 ds a2 := by
  obtain ⟨n1, e1, d1, m1⟩ := h
  obtain ⟨n2, e2, d2, m2⟩ := k
  refine ⟨n2 ++ n1, by rw [e2, e1]; simp, ?_, fun D hD => ?_⟩
  · rw [List.nodup_append]
    exact ⟨d2, d1, fun x hx y hy e => by subst e; have := (m2 x hx).2; rw [(m1 x hy).1] at this; cases this⟩
  · rcases List.mem_append.1 hD with h1 | h1
    · refine ⟨(m2 D h1).1, ?_⟩
      cases ho : σ.oth D with
      | none => rfl
      | some k => have := hl.oth D k ho; rw [(m2 D h1).2] at this; cases this
    · exact ⟨hl2.oth _ _ (m1 D h1).1, (m1 D h1).2⟩
theorem Marks.le {σ σ0 σ1 : Inj} {ds : List Deferred} {a : Act} (h : Marks σ σ1 ds a) (hl : σ0.le σ) : Marks σ0 σ1 ds a := by
  obtain ⟨n, e, d, m⟩ := h
  refine ⟨n, e, d, fun D hD => ⟨(m D hD).1, ?_⟩⟩
  cases ho : σ0.oth D with
  | none => rfl
  | some k => have := hl.oth D k ho; rw [(m D hD).2] at this; cases this

def AWPost (base : Nat) (w0 : World) (nt : Nat) (σ : Inj) (ds : List Deferred) (Q : Ex → Env → AH → Prop) : Exit → Act → World → Prop :=
  fun ex a' w' => ∃ x σ' e' H', ex = x.conc ∧ σ.le σ' ∧ Sim base w0 σ' H' w' ∧ ERel σ' nt e' a' ∧ Marks σ σ' ds a' ∧ Q x e' H'

def RoOk (ro : Option Nat) (σ : Inj) : Prop := ∀ l, ro = some l → σ.oth l = some true
theorem RoOk.mono {ro : Option Nat} {σ σ' : Inj} (h : RoOk ro σ) (hl : σ.le σ') : RoOk ro σ' := fun l e => hl.oth _ _ (h l e)

def AW (P : Program) (nt : Nat) (c : Code) (e : Env) (H : AH) (Q : Ex → Env → AH → Prop) : Prop :=
  ∀ (ro : Option Nat) (base : Nat) (w0 : World) (σ : Inj) (w : World) (a : Act), RoOk ro σ → Sim base w0 σ H w → ERel σ nt e a → c.wpIn (fc ro) 0 P (AWPost base w0 nt σ a.defers Q) a w

def AO (P : Program) (nt : Nat) (ops : Array Oper) (rest : List Oper) (e : Env) (H : AH) (Q : Env → AH → Prop) : Prop :=
  ∀ (ro : Option Nat) (base : Nat) (w0 : World) (σ : Inj) (w : World) (a : Act), RoOk ro σ → Sim base w0 σ H w → ERel σ nt e a →
    wpListIn (fc ro) 0 P ops (AWPost base w0 nt σ a.defers fun x e H => x = .normal ∧ Q e H) rest a w

section
variable {P : Program} {nt : Nat} {e : Env} {H : AH}

theorem AWPost.mono {base : Nat} {w0 : World} {σ σ1 : Inj} {ds : List Deferred} {a1 : Act} {Q Q' : Ex → Env → AH → Prop} (hl : σ.le σ1) (hm : Marks σ σ1 ds a1) (hq : ∀ x e H, Q x e H → Q' x e H) {ex : Exit} {a : Act} {w : World} (h : AWPost base w0 nt σ1 a1.defers Q ex a w) : AWPost base w0 nt σ ds Q' ex a w := by
  obtain ⟨x, σ', e', H', h1, h2, h3, h4, h5, h6⟩ := h
  exact ⟨x, σ', e', H', h1, hl.trans h2, h3, h4, hm.trans hl h2 h5, hq _ _ _ h6⟩

theorem AC.mono {f : FuncId} {args : List AV} {Q Q' : AV → AH → Prop} (h : AC P f args H Q) (hq : ∀ v H', Q v H' → Q' v H') : AC P f args H Q' :=
  fun base w0 σ w cargs S hr => (h base w0 σ w cargs S hr).mono fun _ _ ⟨c, σ', v, H', h1, h2, h3, h4, h5⟩ => ⟨c, σ', v, H', h1, h2, h3, h4, hq _ _ h5⟩

theorem AW.mono {c : Code} {Q Q' : Ex → Env → AH → Prop} (h : AW P nt c e H Q) (hq : ∀ x e H, Q x e H → Q' x e H) : AW P nt c e H Q' :=
  fun ro base w0 σ w a ho S hr => wpIn_mono (h ro base w0 σ w a ho S hr) fun _ _ _ h => h.mono (.refl σ) (.refl σ σ a) hq

theorem AW_skip {Q : Ex → Env → AH → Prop} (h : Q .normal e H) : AW P nt .skip e H Q :=
  fun _ _ _ σ _ a _ S hr => wpIn_skip ⟨.normal, σ, e, H, rfl, .refl σ, S, hr, .refl σ σ a, h⟩
theorem AW_label {l : Nat} {Q : Ex → Env → AH → Prop} (h : Q .normal e H) : AW P nt (.label l) e H Q :=
  fun _ _ _ σ _ a _ S hr => wpIn_label ⟨.normal, σ, e, H, rfl, .refl σ, S, hr, .refl σ σ a, h⟩
theorem AW_exit {l : Nat} {Q : Ex → Env → AH → Prop} (h : Q (.exit l) e H) : AW P nt (.exit l) e H Q :=
  fun _ _ _ σ _ a _ S hr => wpIn_exit ⟨.exit l, σ, e, H, rfl, .refl σ, S, hr, .refl σ σ a, h⟩
theorem AW_goto {l : Nat} {Q : Ex → Env → AH → Prop} (h : Q (.goto l) e H) : AW P nt (.goto l) e H Q :=
  fun _ _ _ σ _ a _ S hr => wpIn_goto ⟨.goto l, σ, e, H, rfl, .refl σ, S, hr, .refl σ σ a, h⟩
theorem AW_ret {Q : Ex → Env → AH → Prop} (h : Q .ret e H) : AW P nt .ret e H Q :=
  fun _ _ _ σ _ a _ S hr => wpIn_ret ⟨.ret, σ, e, H, rfl, .refl σ, S, hr, .refl σ σ a, h⟩

/-- What follows a first part. -/
def Then (P : Program) (nt : Nat) (c : Code) (Q : Ex → Env → AH → Prop) : Ex → Env → AH → Prop
  | .normal, e, H => AW P nt c e H Q
  | x, e, H => Q x e H

theorem AW_seq {c d : Code} {Q : Ex → Env → AH → Prop} (h : AW P nt c e H (Then P nt d Q)) : AW P nt (.seq c d) e H Q := fun ro base w0 σ w a ho S hr => by
  refine wpIn_seq (wpIn_mono (h ro base w0 σ w a ho S hr) ?_)
  rintro ex a' w' ⟨x, σ', e', H', rfl, h2, h3, h4, hm, h5⟩
  cases x with
  | normal => exact wpIn_mono (h5 ro base w0 σ' w' a' (ho.mono h2) h3 h4) fun _ _ _ h => h.mono h2 hm (fun _ _ _ h => h)
  | exit i => exact ⟨.exit i, σ', e', H', rfl, h2, h3, h4, hm, h5⟩
  | goto i => exact ⟨.goto i, σ', e', H', rfl, h2, h3, h4, hm, h5⟩
  | ret => exact ⟨.ret, σ', e', H', rfl, h2, h3, h4, hm, h5⟩

theorem AW_cond {x : Operand} {c d : Code} {t : Bool} {Q : Ex → Env → AH → Prop} (hc : oval e x = .bool t) (h : AW P nt (if t then c else d) e H Q) : AW P nt (.cond x c d) e H Q := fun ro base w0 σ w a ho S hr => by
  have hv := oval_rel hr x
  rw [hc] at hv
  refine wpIn_cond (t := t) ?_ (h ro base w0 σ w a ho S hr)
  generalize a.eval x = v at hv
  cases hv; rfl

theorem AW_cond_true {x : Operand} {c d : Code} {Q : Ex → Env → AH → Prop} (hc : oval e x = .bool true) (h : AW P nt c e H Q) : AW P nt (.cond x c d) e H Q := AW_cond hc h
theorem AW_cond_false {x : Operand} {c d : Code} {Q : Ex → Env → AH → Prop} (hc : oval e x = .bool false) (h : AW P nt d e H Q) : AW P nt (.cond x c d) e H Q := AW_cond hc h
theorem AW_cond_split {x : Operand} {c d : Code} {t : Bool} {Q : Ex → Env → AH → Prop} (hc : oval e x = .bool t) (h1 : t = true → AW P nt c e H Q) (h2 : t = false → AW P nt d e H Q) : AW P nt (.cond x c d) e H Q := by
  cases t
  · exact AW_cond_false hc (h2 rfl)
  · exact AW_cond_true hc (h1 rfl)

/-- What stands behind a block. -/
def Out (id : Nat) (Q : Ex → Env → AH → Prop) : Ex → Env → AH → Prop
  | .exit i, e, H => if i = id then Q .normal e H else Q (.exit i) e H
  | x, e, H => Q x e H

theorem AW_block {id : Nat} {c : Code} {Q : Ex → Env → AH → Prop} (h : AW P nt c e H (Out id Q)) : AW P nt (.block id c) e H Q := fun ro base w0 σ w a ho S hr => by
  refine wpIn_block (wpIn_mono (h ro base w0 σ w a ho S hr) ?_)
  rintro ex a' w' ⟨x, σ', e', H', rfl, h2, h3, h4, hm, h5⟩
  cases x with
  | normal => exact ⟨.normal, σ', e', H', rfl, h2, h3, h4, hm, h5⟩
  | exit i =>
    simp only [Ex.conc, Exit.inBlock]
    simp only [Out] at h5
    split
    · rename_i hi
      rw [if_pos hi] at h5
      exact ⟨.normal, σ', e', H', rfl, h2, h3, h4, hm, h5⟩
    · rename_i hi
      rw [if_neg hi] at h5
      exact ⟨.exit i, σ', e', H', rfl, h2, h3, h4, hm, h5⟩
  | goto i => exact ⟨.goto i, σ', e', H', rfl, h2, h3, h4, hm, h5⟩
  | ret => exact ⟨.ret, σ', e', H', rfl, h2, h3, h4, hm, h5⟩

/-- A loop: an invariant that bears a number, which every round lowers. -/
theorem AW_loop {c : Code} {Q : Ex → Env → AH → Prop} (I : Nat → Env → AH → Prop) (n0 : Nat) (h0 : I n0 e H)
    (round : ∀ n e H, I n e H → AW P nt c e H fun x e' H' => match x with | .normal => ∃ n', n' < n ∧ I n' e' H' | x => Q x e' H') : AW P nt (.loop c) e H Q := fun ro base w0 σ w a ho S hr => by
  refine wpIn_loop_ghost (fun n a1 w => ∃ σ' e H, σ.le σ' ∧ Sim base w0 σ' H w ∧ ERel σ' nt e a1 ∧ Marks σ σ' a.defers a1 ∧ I n e H) n0 ⟨σ, e, H, .refl σ, S, hr, .refl σ σ a, h0⟩ ?_
  rintro n a1 w ⟨σ1, e1, H1, hl, S1, hr1, hm1, hI⟩
  refine wpIn_mono (round n e1 H1 hI ro base w0 σ1 w a1 (ho.mono hl) S1 hr1) ?_
  rintro ex a' w' ⟨x, σ', e', H', rfl, h2, h3, h4, hm, h5⟩
  cases x with
  | normal =>
    obtain ⟨n', hn, hI'⟩ := h5
    exact ⟨n', hn, σ', e', H', hl.trans h2, h3, h4, hm1.trans hl h2 hm, hI'⟩
  | exit i => exact ⟨.exit i, σ', e', H', rfl, hl.trans h2, h3, h4, hm1.trans hl h2 hm, h5⟩
  | goto i => exact ⟨.goto i, σ', e', H', rfl, hl.trans h2, h3, h4, hm1.trans hl h2 hm, h5⟩
  | ret => exact ⟨.ret, σ', e', H', rfl, hl.trans h2, h3, h4, hm1.trans hl h2 hm, h5⟩

/-! ### Operations -/
def putDst (e : Env) (d : Option Tmp) (v : Option AV) : Env :=
  match d, v with
  | none, _ => e
  | some t, some v => eset e t v
  | some t, none => edel e t

def dstOk (nt : Nat) : Option Tmp → Bool
  | none => true
  | some t => decide (t < nt)

theorem ERel.putDst {σ : Inj} {a : Act} (h : ERel σ nt e a) {d : Option Tmp} (hd : dstOk nt d = true) {v : Option AV} {c : Value} (hv : ∀ u, v = some u → RelV σ u c) : ERel σ nt (putDst e d v) (a.put d c) := by
  cases d with
  | none => exact h
  | some t =>
    cases v with
    | none => exact h.del t c
    | some u => exact h.put (by simpa [dstOk] using hd) (hv u rfl)

def isBuiltinW : Builtin → Bool
  | .append | .copy | .clear => true
  | _ => false

/-- One operation that calls nothing. -/
def execN (P : Program) (ρ : Operand → AV) (H : AH) (o : Op) : Option (Option AV × AH) :=
  match o with
  | .store .. | .alloc _ | .box .. | .buildSlice .. | .makeSlice .. | .call { callee := .builtin .append, .. } | .call { callee := .builtin .copy, .. } | .call { callee := .builtin .clear, .. } => aWrite P ρ H o
  | .load .. => (aRead P ρ H o).map fun v => (some v, H)
  | .slice .. =>
    match aPure P ρ o with
    | some v => some (some v, H)
    | none => (aRead P ρ H o).map fun v => (some v, H)
  | .lookup t m x ok => (aLook P H t (ρ m) (ρ x) ok).map fun v => (some v, H)
  | .makeMap t r => aMapMake P t (r.map ρ) H
  | .mapUpdate t m k x => (aMapPut P H t (ρ m) (ρ k) (ρ x)).map fun H' => (none, H')
  | .range t x => aRange P H t (ρ x)
  | .next it str => aNext H (ρ it) str
  | _ => (aPure P ρ o).map fun v => (some v, H)

theorem execN_sound {base : Nat} {w0 w : World} {σ : Inj} {ρ : Operand → AV} {ρc : Operand → Value} (hρ : ∀ x, RelV σ (ρ x) (ρc x)) (S : Sim base w0 σ H w) {o : Oper} {v : Option AV} {H' : AH} (h : execN P ρ H o.op = some (v, H')) :
    ∃ n w' σ', (execOp ρc o).run P w = .ok n w' ∧ σ.le σ' ∧ Sim base w0 σ' H' w' ∧ NextOk σ' v n := by
  have hp : ∀ {u}, aPure P ρ o.op = some u → ∃ n w' σ', (execOp ρc o).run P w = .ok n w' ∧ σ.le σ' ∧ Sim base w0 σ' H w' ∧ NextOk σ' (some u) n := fun hu => by
    obtain ⟨c, h1, h2⟩ := aPure_sound hρ hu
    exact ⟨.value c, w, σ, h2 w, .refl σ, S, h1⟩
  have hr : ∀ {u}, aRead P ρ H o.op = some u → ∃ n w' σ', (execOp ρc o).run P w = .ok n w' ∧ σ.le σ' ∧ Sim base w0 σ' H w' ∧ NextOk σ' (some u) n := fun hu => by
    obtain ⟨c, h1, h2⟩ := aRead_sound hρ S hu
    exact ⟨.value c, w, σ, h2, .refl σ, S, h1⟩
  unfold execN at h
  split at h
  case h_9 => obtain ⟨u, hu, h1⟩ := Option.map_eq_some_iff.1 h; cases h1; exact hr hu
  case h_10 =>
    split at h
    · rename_i u hu; cases h; exact hp hu
    · obtain ⟨u, hu, h1⟩ := Option.map_eq_some_iff.1 h; cases h1; exact hr hu
  case h_11 t m x ok heq =>
    obtain ⟨u, hu, h1⟩ := Option.map_eq_some_iff.1 h; cases h1
    obtain ⟨c, g1, g2⟩ := aLook_sound S hu (hρ m) (hρ x)
    exact ⟨.value c, w, σ, by unfold execOp; rw [heq]; simp [g2], .refl σ, S, g1⟩
  case h_12 t r heq =>
    obtain ⟨c, w', σ', g1, g2, g3, g4⟩ := aMapMake_sound (rc := r.map ρc) S h (by cases r with
      | none => trivial
      | some y => exact hρ y)
    exact ⟨.value c, w', σ', by unfold execOp; rw [heq]; simp [g1], g2, g3, g4⟩
  case h_13 t m k x heq =>
    obtain ⟨u, hu, h1⟩ := Option.map_eq_some_iff.1 h; cases h1
    obtain ⟨w', g1, g2⟩ := aMapPut_sound S hu (hρ m) (hρ k) (hρ x)
    exact ⟨.skip, w', σ, by unfold execOp; rw [heq]; simp [g1], .refl σ, g2, trivial⟩
  case h_14 t x heq =>
    obtain ⟨c, w', σ', g1, g2, g3, g4⟩ := aRange_sound S h (hρ x)
    exact ⟨.value c, w', σ', by unfold execOp; rw [heq]; simp [g1], g2, g3, g4⟩
  case h_15 it str heq =>
    obtain ⟨c, w', σ', g1, g2, g3, g4⟩ := aNext_sound (P := P) (t := o.type) S h (hρ it)
    exact ⟨.value c, w', σ', by unfold execOp; rw [heq]; simp [g1], g2, g3, g4⟩
  case h_16 => obtain ⟨u, hu, h1⟩ := Option.map_eq_some_iff.1 h; cases h1; exact hp hu
  all_goals exact aWrite_sound hρ S h

def okFn (P : Program) (f : FuncId) : Bool :=
  match P.funcs[f]? with
  | some fn => fn.body.isSome && fn.name != "runtime.NumGoroutine"
  | none => false

def isPtrD : TypeDesc → Bool
  | .pointer _ => true
  | _ => false

/-- Which function an operation calls, and with what. -/
def opCall (P : Program) (ρ : Operand → AV) : Op → Option (FuncId × List AV)
  | .call { callee := .value g, args, .. } =>
    match ρ g with
    | .func (.func f) first cap => if okFn P f then some (f, first ++ args.toList.map ρ ++ cap) else none
    | _ => none
  | .call { callee := .invoke r name, args, .. } =>
    match ρ r with
    | .iface t v =>
      match P.info? t, P.underlying t with
      | some i, some d =>
        match i.methods.find? (·.name == name) with
        | some m =>
          match m.path.toList, m.func with
          | [], some (f, p) => if okFn P f && (p == isPtrD d) then some (f, v :: args.toList.map ρ) else none
          | _, _ => none
        | none => none
      | _, _ => none
    | _ => none
  | _ => none

theorem run_callFunc {f : FuncId} (h : okFn P f = true) (args : Array Value) (w : World) : (callFunc f args).run P w = .ok (.enter f args) w := by
  unfold okFn at h
  split at h
  case h_2 => cases h
  rename_i fn hf
  simp only [Bool.and_eq_true, bne_iff_ne, ne_eq] at h
  obtain ⟨h1, h2⟩ := h
  have h3 : ¬ fn.body = none := by cases hb : fn.body <;> simp_all
  simp [callFunc, hf, h2, h3]

theorem opCall_sound {σ : Inj} {ρ : Operand → AV} {ρc : Operand → Value} (hρ : ∀ x, RelV σ (ρ x) (ρc x)) {o : Oper} {f : FuncId} {args : List AV} (h : opCall P ρ o.op = some (f, args)) :
    ∃ cargs : Array Value, RelVs σ args cargs.toList ∧ ∀ w, (execOp ρc o).run P w = .ok (.enter f cargs) w := by
  unfold opCall at h
  unfold execOp
  split at h <;> first | (cases h; done) | skip
  all_goals (rename_i heq; rw [heq]; simp only [])
  case h_1 g as ts =>
    have hg := hρ g
    split at h
    case h_2 => cases h
    rename_i f' first cap hv
    rw [hv] at hg
    split at h
    case isFalse => cases h
    rename_i hok
    cases h
    generalize hc : ρc g = c at hg
    cases hg with
    | func _ h1 h2 =>
      rename_i f2 c2
      refine ⟨f2 ++ as.map ρc ++ c2, ?_, fun w => ?_⟩
      · rw [Array.toList_append, Array.toList_append, Array.toList_map]
        exact (h1.append (RelVs.of_ops hρ _)).append h2
      · simp [resolve, hc, Deferred.ofValue, invoke, run_callFunc hok]
  case h_2 r name as ts =>
    have hr := hρ r
    split at h
    case h_2 => cases h
    rename_i t v hv
    rw [hv] at hr
    split at h
    case h_2 => cases h
    rename_i i d hi hd
    split at h
    case h_2 => cases h
    rename_i m hm
    split at h
    case h_2 => cases h
    rename_i f' p hpath hfn
    split at h
    case isFalse => cases h
    rename_i hok
    simp only [Bool.and_eq_true, beq_iff_eq] at hok
    cases h
    generalize hc : ρc r = c at hr
    cases hr with
    | iface _ h1 =>
      rename_i cv
      refine ⟨#[cv] ++ as.map ρc, ?_, fun w => ?_⟩
      · rw [Array.toList_append, Array.toList_map]
        exact .cons h1 (RelVs.of_ops hρ _)
      · obtain ⟨k, hk⟩ : ∃ k, P.types.size + Made.depth = k + 1 := ⟨P.types.size + Made.depth - 1, by unfold Made.depth; omega⟩
        have hmeth : (method (k + 1) t cv name).run P w = .ok (f, cv) w := by
          cases d <;> simp_all [isPtrD, method, typeInfo, follow, receiverAt, run_underlying hd, Place.get]
        have hx : (#[Value.iface t cv] ++ as.map ρc)[0]? = some (.iface t cv) := by simp [Array.getElem?_append]
        have hy : (as.map ρc).extract 0 as.size = as.map ρc := by rw [← Array.size_map (f := ρc)]; exact Array.extract_size
        simp [resolve, hc, invoke, callMethod, hk, hmeth, hx, run_callFunc hok.1, hy]

/-- Is the operation carried out? -/
def wantedA (ops : Array Oper) (e : Env) (o : Oper) : Option Bool :=
  match o.guard with
  | none => some true
  | some (j, want) =>
    match (ops[j]?).bind (·.dst) with
    | none => none
    | some t => match eget e t with
      | .bool b => some (b == want)
      | _ => none

theorem wantedA_sound {σ : Inj} {a : Act} (hr : ERel σ nt e a) {ops : Array Oper} {o : Oper} {b : Bool} (h : wantedA ops e o = some b) : Region.wanted o (yielded ops a.tmps) = b := by
  unfold wantedA at h
  unfold Region.wanted
  split at h
  · rename_i hg; cases h; rw [hg]
  · rename_i j want hg
    rw [hg]
    simp only []
    split at h
    case h_1 => cases h
    rename_i t ht
    split at h
    case h_2 => cases h
    rename_i b' hb
    cases h
    have hv := hr.2.2 t
    rw [hb] at hv
    have hsz : a.tmps[t]? = some (.bool b') := by
      rw [Array.getD_eq_getD_getElem?] at hv
      cases hx : a.tmps[t]? with
      | none => rw [hx] at hv; simp [undef] at hv; cases hv
      | some u => rw [hx] at hv; simp at hv; cases hv; rfl
    simp [yielded, ht, hsz]

theorem AO_nil {ops : Array Oper} {Q : Env → AH → Prop} (h : Q e H) : AO P nt ops [] e H Q :=
  fun _ _ _ σ _ a _ S hr => ⟨.normal, σ, e, H, rfl, .refl σ, S, hr, .refl σ σ a, rfl, h⟩

theorem uponIn_mono {ro : Option Nat} {o : Oper} {a : Act} {K K' : Act → World → Prop} {Q Q' : Exit → Act → World → Prop} (hk : ∀ a w, K a w → K' a w) (hq : ∀ e a w, Q e a w → Q' e a w) {r : Result Next} (h : o.uponIn (fc ro) 0 P a K Q r) : o.uponIn (fc ro) 0 P a K' Q' r := by
  cases r with
  | ok x w' =>
    cases x <;> simp only [Oper.uponIn] at h ⊢ <;> first
      | exact hk _ _ h
      | exact ⟨h.1, CallsIn.mono h.2 (fun e w'' he => by
          cases e with
          | returned v => exact hk _ _ he
          | panicked c => exact hq _ _ _ he
          | outgrown => obtain ⟨a0, w0, h0⟩ := he; exact ⟨a0, w0, hq _ _ _ h0⟩)⟩
      | exact ⟨h.1, RowsIn.mono h.2 (fun _ _ he => hk _ _ he)⟩
      | exact ⟨h.1, RoundIn.mono h.2 (fun e w'' he => by
          cases e with
          | returned v => exact hk _ _ he
          | panicked c => exact hq _ _ _ he
          | outgrown => obtain ⟨a0, w0, h0⟩ := he; exact ⟨a0, w0, hq _ _ _ h0⟩)⟩
  | halt x w' => cases x <;> simp only [Oper.uponIn] at h ⊢ <;> exact hq _ _ _ h
theorem operIn_mono {ro : Option Nat} {o : Oper} {a : Act} {w : World} {K K' : Act → World → Prop} {Q Q' : Exit → Act → World → Prop} (hk : ∀ a w, K a w → K' a w) (hq : ∀ e a w, Q e a w → Q' e a w) (h : o.wpIn (fc ro) 0 P a w K Q) : o.wpIn (fc ro) 0 P a w K' Q' :=
  ⟨h.1, uponIn_mono hk hq h.2⟩
/-- An operation that is no 'defer', in whatever frame. -/
theorem oper_of {ro : Option Nat} {o : Oper} {a : Act} {w : World} {K : Act → World → Prop} {Q : Exit → Act → World → Prop} (hd : ∀ c, o.op ≠ .defer c) (h : o.uponIn (fc ro) 0 P a K Q ((execOp a.eval o).run P w)) : o.wpIn (fc ro) 0 P a w K Q :=
  ⟨fun _ _ => trivial, by rw [Oper.semAt_eq _ _ _ hd]; exact h⟩
theorem execN_nd {ρ : Operand → AV} {H : AH} {o : Op} {r : Option AV × AH} (h : execN P ρ H o = some r) : ∀ c, o ≠ .defer c := by
  rintro c rfl; cases h
theorem opCall_nd {ρ : Operand → AV} {o : Op} {r : FuncId × List AV} (h : opCall P ρ o = some r) : ∀ c, o ≠ .defer c := by
  rintro c rfl; cases h

theorem wpListIn_wanted {ro : Option Nat} {ops : Array Oper} {Q : Exit → Act → World → Prop} {o : Oper} {rest : List Oper} {a : Act} {w : World} (hw : Region.wanted o (yielded ops a.tmps) = true) (h : o.wpIn (fc ro) 0 P a w (wpListIn (fc ro) 0 P ops Q rest) Q) : wpListIn (fc ro) 0 P ops Q (o :: rest) a w := by
  unfold wpListIn
  rw [if_pos hw]
  exact h

theorem wpListIn_mono {ro : Option Nat} {ops : Array Oper} {Q Q' : Exit → Act → World → Prop} (hq : ∀ e a w, Q e a w → Q' e a w) : ∀ (l : List Oper) (a : Act) (w : World), wpListIn (fc ro) 0 P ops Q l a w → wpListIn (fc ro) 0 P ops Q' l a w
  | [], a, w, h => hq _ _ _ h
  | o :: rest, a, w, h => by
    unfold wpListIn at h ⊢
    split
    · rename_i hw
      rw [if_pos hw] at h
      exact operIn_mono (wpListIn_mono hq rest) hq h
    · rename_i hw
      rw [if_neg hw] at h
      exact ⟨h.1, wpListIn_mono hq rest _ _ h.2⟩

theorem Marks.put {σ σ' : Inj} {ds : List Deferred} {a : Act} (h : Marks σ σ' ds a) (d : Option Tmp) (v : Value) : Marks σ σ' ds (a.put d v) := by
  cases d <;> exact h
theorem AWPost.after {base : Nat} {w0 : World} {σ σ1 : Inj} {a : Act} {d : Option Tmp} {u : Value} {Q : Ex → Env → AH → Prop} (hl : σ.le σ1) {ex : Exit} {a' : Act} {w : World} (h : AWPost base w0 nt σ1 (a.put d u).defers Q ex a' w) : AWPost base w0 nt σ a.defers Q ex a' w := by
  refine AWPost.mono (a1 := a.put d u) hl ((Marks.refl σ σ1 a).put d u) (fun _ _ _ h => h) h

theorem AO_op {ops : Array Oper} {Q : Env → AH → Prop} {o : Oper} {rest : List Oper} {v : Option AV} {H' : AH} (hw : wantedA ops e o = some true) (h : execN P (oval e) H o.op = some (v, H')) (hd : dstOk nt o.dst = true)
    (hk : AO P nt ops rest (putDst e o.dst v) H' Q) : AO P nt ops (o :: rest) e H Q := fun ro base w0 σ w a ho S hr => by
  refine wpListIn_wanted (wantedA_sound hr hw) (oper_of (execN_nd h) ?_)
  obtain ⟨n, w', σ', h1, h2, h3, h4⟩ := execN_sound (oval_rel hr) S h
  rw [h1]
  have hr' := hr.mono h2
  cases v with
  | none =>
    cases n <;> simp only [NextOk] at h4
    exact wpListIn_mono (fun _ _ _ h => h.after h2) rest _ _ (hk ro base w0 σ' w' _ (ho.mono h2) h3 (hr'.putDst hd (fun u hu => by cases hu)))
  | some u =>
    cases n <;> simp only [NextOk] at h4
    exact wpListIn_mono (fun _ _ _ h => h.after h2) rest _ _ (hk ro base w0 σ' w' _ (ho.mono h2) h3 (hr'.putDst hd (fun u' hu => by cases hu; exact h4)))

/-- A text made of letters that lie in memory. -/
def ints32 : List AV → Option (List Int)
  | [] => some []
  | .int .i32 n :: l => (ints32 l).map (n :: ·)
  | _ => none
theorem ints32_map : ∀ (ns : List Int), ints32 (ns.map (AV.int .i32)) = some ns
  | [] => rfl
  | n :: ns => by simp [ints32, ints32_map ns]
theorem ints32_rel {σ : Inj} : ∀ {l : List AV} {cs : List Value} {ns : List Int}, ints32 l = some ns → RelVs σ l cs → cs = ns.map (Value.int .i32)
  | [], _, _, h, .nil => by cases h; rfl
  | v :: l, c :: cs, ns, h, .cons h1 h2 => by
    unfold ints32 at h
    split at h
    · rename_i hh; cases hh
    · rename_i n l' hh
      cases hh
      obtain ⟨ns', h3, rfl⟩ := Option.map_eq_some_iff.1 h
      cases h1
      rw [ints32_rel h3 h2]; rfl
    · cases h
def aRunes (P : Program) (H : AH) (src dst : TypeId) (x : AV) : Option AV :=
  match P.underlying src, P.underlying dst, x with
  | some (.slice e), some .string, .slice (some r) off len ver sz _ => match P.underlying e with
    | some (.int .i32) => if sz = 1 then ((ldn H r ver len off).bind ints32).map fun ns => .str (runesBytes ns).data.toList else none
    | _ => none
  | _, _, _ => none
def aRunesO (P : Program) (ρ : Operand → AV) (H : AH) : Op → Option (Option AV × AH)
  | .convert s d x => (aRunes P H s d (ρ x)).map fun v => (some v, H)
  | _ => none
theorem aRunes_sound {base : Nat} {w0 w : World} {σ : Inj} (S : Sim base w0 σ H w) {s d : TypeId} {x v : AV} {c : Value} (h : aRunes P H s d x = some v) (hx : RelV σ x c) : ∃ c', RelV σ v c' ∧ (convert s d c).run P w = .ok c' w := by
  unfold aRunes at h
  split at h
  case h_2 => cases h
  rename_i e r off len ver sz full hs hd
  split at h
  case h_2 => cases h
  rename_i he
  split at h
  case isFalse => cases h
  rename_i hsz
  subst hsz
  obtain ⟨ns, h1, rfl⟩ := Option.map_eq_some_iff.1 h
  obtain ⟨vs, h2, h3⟩ := Option.bind_eq_some_iff.1 h1
  cases hx with
  | slice hf hv hc hl ho hfl hfin =>
  rename_i b o n cap sp dd
  refine ⟨.string (runesBytes ns), .str _, ?_⟩
  rw [run_convert_runes_string w s d e _ _ _ hs he hd]
  refine run_runesToString w _ len cap ns ?_
  rcases Nat.eq_zero_or_pos len with h0 | h0
  · subst h0
    rw [ldn_zero] at h2; cases h2; cases h3
    simp [loadCells, loadCellsFrom]
  · obtain ⟨ho1, -, rfl⟩ := ho (by omega)
    obtain ⟨cs, g1, g2, g3⟩ := S.ldn h2 hf ho1 hc
    have := ints32_rel h3 g3
    subst this
    have hh := run_loadCells_list (P := P) w ⟨b, o, none⟩ (ns.map (Value.int .i32)) (fun j v hj => by
      have := g1 j v hj
      rw [Addr.add_mid]
      exact this)
    rw [g2] at hh
    exact hh
theorem AO_runes {ops : Array Oper} {Q : Env → AH → Prop} {o : Oper} {rest : List Oper} {v : Option AV} {H' : AH} (hw : wantedA ops e o = some true) (h : aRunesO P (oval e) H o.op = some (v, H')) (hd : dstOk nt o.dst = true)
    (hk : AO P nt ops rest (putDst e o.dst v) H' Q) : AO P nt ops (o :: rest) e H Q := fun ro base w0 σ w a ho S hr => by
  unfold aRunesO at h
  split at h
  case h_2 => cases h
  rename_i s d x heq
  obtain ⟨u, hu, hv⟩ := Option.map_eq_some_iff.1 h
  cases hv
  obtain ⟨c, h1, h2⟩ := aRunes_sound S hu (oval_rel hr x)
  refine wpListIn_wanted (wantedA_sound hr hw) (oper_of (fun c' => by rw [heq]; intro h; cases h) ?_)
  have hx : (execOp a.eval o).run P w = .ok (.value c) w := by unfold execOp; rw [heq]; simp [h2]
  rw [hx]
  exact wpListIn_mono (fun _ _ _ h => h.after (.refl σ)) rest _ _ (hk ro base w0 σ w _ ho S (hr.putDst hd (fun u' hu => by cases hu; exact h1)))


theorem AO_skip {ops : Array Oper} {Q : Env → AH → Prop} {o : Oper} {rest : List Oper} (hw : wantedA ops e o = some false) (hk : AO P nt ops rest (putDst e o.dst none) H Q) : AO P nt ops (o :: rest) e H Q := fun ro base w0 σ w a ho S hr => by
  unfold wpListIn
  rw [if_neg (by rw [wantedA_sound hr hw]; simp)]
  refine ⟨fun _ _ => trivial, wpListIn_mono (fun _ _ _ h => h.after (.refl σ)) rest _ _ (hk ro base w0 σ w _ ho S ?_)⟩
  cases hd : o.dst with
  | none => exact hr
  | some t => exact hr.del t undef

theorem AO_call {ops : Array Oper} {Q : Env → AH → Prop} {o : Oper} {rest : List Oper} {f : FuncId} {args : List AV} (hw : wantedA ops e o = some true) (hc : opCall P (oval e) o.op = some (f, args)) (hd : dstOk nt o.dst = true)
    (h : AC P f args H fun v H' => AO P nt ops rest (putDst e o.dst (some v)) H' Q) : AO P nt ops (o :: rest) e H Q := fun ro base w0 σ w a ho S hr => by
  refine wpListIn_wanted (wantedA_sound hr hw) (oper_of (opCall_nd hc) ?_)
  obtain ⟨cargs, h1, h2⟩ := opCall_sound (oval_rel hr) hc
  rw [h2 w]
  simp only [Oper.uponIn]
  refine ⟨fun h => by simp [fc, Fence.wide] at h, fc_calls ((h base w0 σ w cargs S h1).mono ?_)⟩
  rintro en w' ⟨c, σ', v, H', rfl, g2, g3, g4, g5⟩
  exact wpListIn_mono (fun _ _ _ h => h.after g2) rest _ _ (g5 ro base w0 σ' w' _ (ho.mono g2) g3 ((hr.mono g2).putDst hd (fun u' hu => by cases hu; exact g4)))

theorem AW_region {id : Nat} {ops : Array Oper} {Q : Ex → Env → AH → Prop} (ks : List Nat) (h : AO P nt ops ops.toList e H fun e' H' => Q .normal (ekeep ks e') H') : AW P nt (.region id ops false) e H Q := fun ro base w0 σ w a ho S hr => by
  refine wpIn_region_list (wpListIn_mono ?_ _ _ _ (h ro base w0 σ w a ho S hr))
  rintro ex a' w' ⟨x, σ', e', H', rfl, h2, h3, h4, hm, rfl, h5⟩
  exact ⟨.normal, σ', _, H', rfl, h2, h3, h4.keep ks, hm, h5⟩
end
end Go.Proofs.Ytbimapbcpmeooaa.AX

/- A plain reading of runs: functions; rows that nobody can reach any more are left out. -/
namespace Go.Proofs.Ytbimapbcpmeooaa.AX
open Go Go.RowKit

/-! ### Values that name old rows alone -/
mutual
inductive Bel (N : Nat) : AV → Prop
  | undef : Bel N .undef
  | bool (b : Bool) : Bel N (.bool b)
  | int (k : IntKind) (n : Int) : Bel N (.int k n)
  | str (s : List UInt8) : Bel N (.str s)
  | nilptr : Bel N .nilptr
  | ptr {r o v : Nat} : r < N → Bel N (.ptr r o v)
  | nilslice {off len ver sz : Nat} {full : Bool} : Bel N (.slice none off len ver sz full)
  | slice {r off len ver sz : Nat} {full : Bool} : r < N → Bel N (.slice (some r) off len ver sz full)
  | nilmap : Bel N .nilmap
  | map {r : Nat} : r < N → Bel N (.map r)
  | nilfunc : Bel N .nilfunc
  | func (fn : Fn) {a b : List AV} : Bels N a → Bels N b → Bel N (.func fn a b)
  | niliface : Bel N .niliface
  | iface (t : TypeId) {v : AV} : Bel N v → Bel N (.iface t v)
  | agg {vs : List AV} : Bels N vs → Bel N (.agg vs)
  | tuple {vs : List AV} : Bels N vs → Bel N (.tuple vs)
  | gptr (g off : Nat) : Bel N (.gptr g off)
  | clip {r off len ver sz : Nat} : r < N → Bel N (.clip r off len ver sz)
  | yld {r : Nat} : r < N → Bel N (.yld r)
  | iter {r : Nat} : r < N → Bel N (.iter r)
  | part {r off len ver sz : Nat} : r < N → Bel N (.part r off len ver sz)
inductive Bels (N : Nat) : List AV → Prop
  | nil : Bels N []
  | cons {v : AV} {vs : List AV} : Bel N v → Bels N vs → Bels N (v :: vs)
end

def belB (N : Nat) : Nat → AV → Bool
  | _, .undef | _, .bool _ | _, .int _ _ | _, .str _ | _, .nilptr | _, .nilmap | _, .nilfunc | _, .niliface | _, .gptr _ _ => true
  | _, .clip r _ _ _ _ => decide (r < N)
  | _, .yld r => decide (r < N)
  | _, .iter r => decide (r < N)
  | _, .part r _ _ _ _ => decide (r < N)
  | _, .ptr r _ _ => decide (r < N)
  | _, .slice none _ _ _ _ _ => true
  | _, .slice (some r) _ _ _ _ _ => decide (r < N)
  | _, .map r => decide (r < N)
  | n + 1, .func _ a b => a.all (belB N n) && b.all (belB N n)
  | n + 1, .iface _ v => belB N n v
  | n + 1, .agg vs => vs.all (belB N n)
  | n + 1, .tuple vs => vs.all (belB N n)
  | 0, .func .. | 0, .iface .. | 0, .agg .. | 0, .tuple .. => false

theorem Bels.of_all {N : Nat} {p : AV → Bool} (h : ∀ v, p v = true → Bel N v) : ∀ {vs : List AV}, vs.all p = true → Bels N vs
  | [], _ => .nil
  | v :: vs, hv => by
    simp only [List.all_cons, Bool.and_eq_true] at hv
    exact .cons (h v hv.1) (Bels.of_all h hv.2)

theorem Bel.of_belB {N : Nat} : ∀ (n : Nat) (v : AV), belB N n v = true → Bel N v := by
  intro n
  induction n with
  | zero => intro v h; cases v with
    | slice r _ _ _ _ _ => cases r <;> simp [belB] at h <;> constructor; assumption
    | _ => simp [belB] at h <;> constructor <;> assumption
  | succ n ih => intro v h; cases v with
    | slice r _ _ _ _ _ => cases r <;> simp [belB] at h <;> constructor; assumption
    | func fn a b =>
      simp only [belB, Bool.and_eq_true] at h
      exact .func _ (Bels.of_all ih h.1) (Bels.of_all ih h.2)
    | iface t v => exact .iface t (ih v (by simpa [belB] using h))
    | agg vs => exact .agg (Bels.of_all ih (by simpa only [belB] using h))
    | tuple vs => exact .tuple (Bels.of_all ih (by simpa only [belB] using h))
    | _ => simp [belB] at h <;> constructor <;> assumption

mutual
theorem RelV.bel {σ : Inj} {N : Nat} (h1 : ∀ b r d n, σ.fam b = some (r, d, n) → r < N) (h2 : ∀ r b, σ.mapAt r = some b → r < N) : ∀ {v : AV} {c : Value}, RelV σ v c → Bel N v
  | _, _, .undef _ => .undef
  | _, _, .bool b => .bool b
  | _, _, .int k n => .int k n
  | _, _, .str s => .str _
  | _, _, .nilptr => .nilptr
  | _, _, .ptr hf _ _ _ => .ptr (h1 _ _ _ _ hf)
  | _, _, .nilslice => .nilslice
  | _, _, .slice hf _ _ _ _ _ _ => .slice (h1 _ _ _ _ hf)
  | _, _, .gptr g off => .gptr g off
  | _, _, .clip hf _ _ _ => .clip (h1 _ _ _ _ hf)
  | _, _, .yld hf => .yld (h2 _ _ hf)
  | _, _, .iter hf => .iter (h2 _ _ hf)
  | _, _, .part hf _ _ _ _ => .part (h1 _ _ _ _ hf)
  | _, _, .nilmap => .nilmap
  | _, _, .map hf => .map (h2 _ _ hf)
  | _, _, .nilfunc => .nilfunc
  | _, _, .func fn g1 g2 => .func fn (RelVs.bel h1 h2 g1) (RelVs.bel h1 h2 g2)
  | _, _, .niliface => .niliface
  | _, _, .iface t g => .iface t (RelV.bel h1 h2 g)
  | _, _, .agg g => .agg (RelVs.bel h1 h2 g)
  | _, _, .tuple g => .tuple (RelVs.bel h1 h2 g)
theorem RelVs.bel {σ : Inj} {N : Nat} (h1 : ∀ b r d n, σ.fam b = some (r, d, n) → r < N) (h2 : ∀ r b, σ.mapAt r = some b → r < N) : ∀ {vs : List AV} {cs : List Value}, RelVs σ vs cs → Bels N vs
  | _, _, .nil => .nil
  | _, _, .cons g1 g2 => .cons (RelV.bel h1 h2 g1) (RelVs.bel h1 h2 g2)
end

/-- σ' knows of the rows below N what σ knows. -/
structure Inj.same (N : Nat) (σ σ' : Inj) : Prop where
  fam : ∀ b r d n, r < N → σ.fam b = some (r, d, n) → σ'.fam b = some (r, d, n)
  canon : ∀ r, r < N → σ'.canon r = σ.canon r
  ver : ∀ r, r < N → σ'.ver r = σ.ver r
  fin : ∀ r, r < N → σ'.fin r = σ.fin r
  map : ∀ r b, r < N → σ.mapAt r = some b → σ'.mapAt r = some b

mutual
theorem RelV.cut {σ σ' : Inj} {N : Nat} (h : σ.same N σ') : ∀ {v : AV} {c : Value}, RelV σ v c → Bel N v → RelV σ' v c
  | _, _, .undef v, _ => .undef v
  | _, _, .bool b, _ => .bool b
  | _, _, .int k n, _ => .int k n
  | _, _, .str s, _ => .str s
  | _, _, .nilptr, _ => .nilptr
  | _, _, .ptr hf ho hv hc, .ptr hr => .ptr (h.fam _ _ _ _ hr hf) ho (by rw [h.ver _ hr]; exact hv) (by rw [h.ver _ hr, h.canon _ hr]; exact hc)
  | _, _, .nilslice, _ => .nilslice
  | _, _, .slice hf hv hc hl ho hfl hfin, .slice hr => .slice (h.fam _ _ _ _ hr hf) (by rw [h.ver _ hr]; exact hv) (by rw [h.ver _ hr, h.canon _ hr]; exact hc) hl ho hfl (by rw [h.ver _ hr, h.fin _ hr]; exact hfin)
  | _, _, .gptr g off, _ => .gptr g off
  | _, _, .clip hf hv hc ho, .clip hr => .clip (h.fam _ _ _ _ hr hf) (by rw [h.ver _ hr]; exact hv) (by rw [h.ver _ hr, h.canon _ hr]; exact hc) ho
  | _, _, .yld hf, .yld hr => .yld (h.map _ _ hr hf)
  | _, _, .iter hf, .iter hr => .iter (h.map _ _ hr hf)
  | _, _, .part hf hv hc hl ho, .part hr => .part (h.fam _ _ _ _ hr hf) (by rw [h.ver _ hr]; exact hv) (by rw [h.ver _ hr, h.canon _ hr]; exact hc) hl ho
  | _, _, .nilmap, _ => .nilmap
  | _, _, .map hf, .map hr => .map (h.map _ _ hr hf)
  | _, _, .nilfunc, _ => .nilfunc
  | _, _, .func fn g1 g2, .func _ k1 k2 => .func fn (RelVs.cut h g1 k1) (RelVs.cut h g2 k2)
  | _, _, .niliface, _ => .niliface
  | _, _, .iface t g, .iface _ k => .iface t (RelV.cut h g k)
  | _, _, .agg g, .agg k => .agg (RelVs.cut h g k)
  | _, _, .tuple g, .tuple k => .tuple (RelVs.cut h g k)
theorem RelVs.cut {σ σ' : Inj} {N : Nat} (h : σ.same N σ') : ∀ {vs : List AV} {cs : List Value}, RelVs σ vs cs → Bels N vs → RelVs σ' vs cs
  | _, _, .nil, _ => .nil
  | _, _, .cons g1 g2, .cons k1 k2 => .cons (RelV.cut h g1 k1) (RelVs.cut h g2 k2)
end

def ObjBel (N : Nat) : AObj → Prop
  | .row cells _ _ _ => ∀ v ∈ cells, Bel N v
  | .map l => ∀ x ∈ l, Bel N x.1 ∧ Bel N x.2
  | .gvar _ cells => Bels N cells
  | .loop _ _ L => ∀ t, Bel N (eget L.e t)
  | .iter _ _ => True

def objBelB (N : Nat) : AObj → Bool
  | .row cells _ _ _ => cells.all (belB N 4)
  | .map l => l.all fun x => belB N 4 x.1 && belB N 4 x.2
  | .gvar _ cells => cells.all (belB N 4)
  | .loop _ _ L => L.e.all fun x => belB N 4 x.2
  | .iter _ _ => true

theorem Bel.eget {N : Nat} : ∀ {e : Env}, (∀ x ∈ e, Bel N x.2) → ∀ t, Bel N (eget e t)
  | [], _, _ => .undef
  | (k, v) :: e, h, t => by
    simp only [AX.eget]
    split
    · exact h (k, v) (by simp)
    · exact Bel.eget (fun x hx => h x (by simp [hx])) t

theorem ObjBel.of_B {N : Nat} {o : AObj} (h : objBelB N o = true) : ObjBel N o := by
  cases o with
  | row cells v s ro =>
    intro v hv
    simp only [objBelB, List.all_eq_true] at h
    exact .of_belB 4 v (h v hv)
  | map l =>
    intro x hx
    simp only [objBelB, List.all_eq_true, Bool.and_eq_true] at h
    exact ⟨.of_belB 4 _ (h x hx).1, .of_belB 4 _ (h x hx).2⟩
  | gvar g cells => exact Bels.of_all (fun v hv => .of_belB 4 v hv) (by simpa only [objBelB] using h)
  | loop s pe L =>
    simp only [objBelB, List.all_eq_true] at h
    exact Bel.eget fun x hx => .of_belB 4 _ (h x hx)
  | iter s pos => trivial

/-- The old rows name no new ones: each is as it was, or names old rows alone. -/
def PrefOk (H H' : AH) : Prop := H.length ≤ H'.length ∧ ∀ r o, r < H.length → H'[r]? = some o → H[r]? = some o ∨ ObjBel H.length o

section
variable {base : Nat} {w0 w w' : World} {σ σ' : Inj} {H H' : AH}

theorem Sim.objBel (S : Sim base w0 σ H w) {r : Nat} {o : AObj} (h : H[r]? = some o) : ObjBel H.length o := by
  have l1 : ∀ b r d n, σ.fam b = some (r, d, n) → r < H.length := fun b r d n h => (S.lt b r d n h).1
  have l2 : ∀ r b, σ.mapAt r = some b → r < H.length := fun r b h => (S.mlt r b h).1
  cases o with
  | row cells ver stale ro =>
    intro v hv
    obtain ⟨p, hp⟩ := List.getElem?_of_mem hv
    obtain ⟨d, n, _, hc⟩ := (S.rows _ _ _ _ _ h).new
    rcases hc p v hp with h1 | ⟨k, c, _, _, h1⟩
    · subst h1; exact .undef
    · exact h1.bel l1 l2
  | map l =>
    obtain ⟨b, es, clock, _, _, _, hes⟩ := (S.maps _ _ h).at_
    intro x hx
    have : ∀ {l : List (AV × AV)} {es : List MapEntry}, RelEs σ l es → ∀ x ∈ l, Bel H.length x.1 ∧ Bel H.length x.2 := by
      intro l
      induction l with
      | nil => intro es _ x hx; simp at hx
      | cons y l ih => intro es he x hx; cases es with
        | nil => simp [RelEs] at he
        | cons z es =>
          rcases List.mem_cons.1 hx with e | e
          · subst e; exact ⟨he.1.bel l1 l2, he.2.1.bel l1 l2⟩
          · exact ih he.2.2 x e
    exact this hes x hx
  | gvar g cells =>
    obtain ⟨-, C, e, fz, -, hr⟩ := S.gvars _ _ _ h
    exact hr.bel l1 l2
  | loop s pe L =>
    obtain ⟨b, R, -, -, -, -, -, -, -, -, -, hr, -⟩ := (S.loops _ _ _ _ h).at_
    exact fun t => (hr t).bel l1 l2
  | iter s pos => trivial

/-- The rows from N on are forgotten, but for one that is put at place N. -/
def Inj.cut (σ : Inj) (N : Nat) (keep : Option (Nat × Nat × Int × Nat)) (fm : Nat) : Inj where
  fin x := if x < N then σ.fin x else fm
  canon x := if x < N then σ.canon x else match keep with | some (_, b, _, _) => b | none => 0
  fam b := match σ.fam b with
    | some (r, d, n) => if r < N then some (r, d, n) else match keep with
      | some (_, b', d', n') => if b = b' then some (N, d', n') else none
      | none => none
    | none => none
  ver x := if x < N then σ.ver x else 0
  mapAt r := if r < N then σ.mapAt r else none
  oth := σ.oth

theorem Inj.cut_same (σ : Inj) (N : Nat) (k : Option (Nat × Nat × Int × Nat)) (fm : Nat) : σ.same N (σ.cut N k fm) where
  fin r hr := by simp [Inj.cut, hr]
  fam b r d n hr h := by simp [Inj.cut, h, hr]
  canon r hr := by simp [Inj.cut, hr]
  ver r hr := by simp [Inj.cut, hr]
  map r b hr h := by simp [Inj.cut, h, hr]

theorem Inj.cut_fam {σ : Inj} {N b r : Nat} {k : Option (Nat × Nat × Int × Nat)} {d : Int} {n fm : Nat} (hr : r < N) (h : (σ.cut N k fm).fam b = some (r, d, n)) : σ.fam b = some (r, d, n) := by
  simp only [Inj.cut] at h
  split at h
  · rename_i r' d' n' hf
    split at h
    · rw [← h]; exact hf
    · split at h
      · split at h
        · cases h; omega
        · cases h
      · cases h
  · cases h

/-- What was known of an old row is known of it still. -/
theorem RowOk.cut {r : Nat} {cells : List AV} {ver stale : Nat} {ro : Bool} (R : RowOk base σ w r cells ver stale ro) {N : Nat} (hr : r < N) (hb : ∀ v ∈ cells, Bel N v) (k : Option (Nat × Nat × Int × Nat)) (fm : Nat) : RowOk base (σ.cut N k fm) w r cells ver stale ro := by
  have hs := σ.cut_same N k fm
  have hcell : ∀ {b : Nat} {o : Int} {v : AV}, v ∈ cells → CellAt σ w b o v → CellAt (σ.cut N k fm) w b o v := by
    intro b o v hv h
    rcases h with h | ⟨q, c, h1, h2, h3⟩
    · exact .inl h
    · exact .inr ⟨q, c, h1, h2, h3.cut hs (hb v hv)⟩
  refine ⟨by rw [hs.ver _ hr]; exact R.ver, by rw [hs.fin _ hr]; exact R.fin, ?_, ?_⟩
  · obtain ⟨d, n, hf, hc⟩ := R.new
    rw [hs.canon _ hr]
    exact ⟨d, n, hs.fam _ _ _ _ hr hf, fun p v hp => hcell (List.mem_of_getElem? hp) (hc p v hp)⟩
  · intro b d n hf
    obtain ⟨g1, g2, g3⟩ := R.all b d n (Inj.cut_fam hr hf)
    exact ⟨g1, g2, fun p v hp hv => hcell (List.mem_of_getElem? hv) (g3 p v hp hv)⟩

theorem RelEs.cut {N : Nat} (h : σ.same N σ') : ∀ {l : List (AV × AV)} {es : List MapEntry}, RelEs σ l es → (∀ x ∈ l, Bel N x.1 ∧ Bel N x.2) → RelEs σ' l es
  | [], [], _, _ => trivial
  | [], _ :: _, h1, _ => h1.elim
  | _ :: _, [], h1, _ => h1.elim
  | x :: _, _ :: _, h1, hb => ⟨h1.1.cut h (hb x (by simp)).1, h1.2.1.cut h (hb x (by simp)).2, RelEs.cut h h1.2.2 fun y hy => hb y (by simp [hy])⟩

theorem LoopOk.cut {r : Nat} {s : LoopState} {pe : Ex} {L : LR} (h : LoopOk base σ w r s pe L) {N : Nat} (hr : r < N) (hs : σ.same N σ') (ho : σ'.oth = σ.oth) (hb : ∀ t, Bel N (eget L.e t)) : LoopOk base σ' w r s pe L := by
  obtain ⟨b, R, h1, h2, h3, h4, h5, h6, h7, h8, h9, h10, h11⟩ := h.at_
  exact ⟨b, R, hs.map _ _ hr h1, h2, h3, h4, h5, h6, h7, h8, h9, fun t => (h10 t).cut hs (hb t), by rw [ho]; exact h11⟩
theorem ItOk.cut {r : Nat} {s : List UInt8} {pos : Nat} (h : ItOk base σ w r s pos) {N : Nat} (hr : r < N) (hs : σ.same N σ') : ItOk base σ' w r s pos := by
  obtain ⟨b, h1, h2, h3⟩ := h
  exact ⟨b, hs.map _ _ hr h1, h2, h3⟩
theorem cut_minj (S : Sim base w0 σ H w) (N : Nat) (k : Option (Nat × Nat × Int × Nat)) (fm : Nat) : ∀ r r' b, (σ.cut N k fm).mapAt r = some b → (σ.cut N k fm).mapAt r' = some b → r = r' := by
  intro r r' b h h'
  simp only [Inj.cut] at h h'
  split at h
  · split at h'
    · exact S.minj _ _ _ h h'
    · cases h'
  · cases h

theorem le_cut (S0 : Sim base w0 σ H w) (hl : σ.le σ') (k : Option (Nat × Nat × Int × Nat)) (fm : Nat) : σ.le (σ'.cut H.length k fm) := by
  have hs := σ'.cut_same H.length k fm
  refine ⟨fun b r d n h => ?_, fun b r d n h e => by
    have hr := (S0.lt _ _ _ _ h).1
    rw [hs.ver _ hr] at e
    rw [hs.fin _ hr]
    exact hl.fin _ _ _ _ h e, fun r b h => hs.map _ _ (S0.mlt _ _ h).1 (hl.map _ _ h), fun b k h => hl.oth b k h⟩
  have hr := (S0.lt _ _ _ _ h).1
  obtain ⟨h1, h2, h3⟩ := hl.fam _ _ _ _ h
  rw [hs.ver _ hr, hs.canon _ hr]
  exact ⟨hs.fam _ _ _ _ hr h1, h2, h3⟩

/-- All new rows are left out. -/
theorem Sim.trunc (S0 : Sim base w0 σ H w) (S : Sim base w0 σ' H' w') (hp : PrefOk H H') : Sim base w0 (σ'.cut H.length none 0) (H'.take H.length) w' := by
  have hbel : ∀ r o, r < H.length → H'[r]? = some o → ObjBel H.length o := fun r o hr ho => (hp.2 r o hr ho).elim (fun h => S0.objBel h) id
  have hlen : (H'.take H.length).length = H.length := by rw [List.length_take]; exact Nat.min_eq_left hp.1
  have hget : ∀ r o, (H'.take H.length)[r]? = some o → r < H.length ∧ H'[r]? = some o := by
    intro r o h
    rcases Nat.lt_or_ge r H.length with hr | hr
    · rw [List.getElem?_take_of_lt hr] at h; exact ⟨hr, h⟩
    · rw [List.getElem?_eq_none (by omega)] at h; cases h
  refine ⟨S.below, S.size, ?_, ?_, ?_, ?_, fun r g c h => by
    obtain ⟨hr, h⟩ := hget _ _ h
    obtain ⟨k1, C, e, fz, k2, k3⟩ := S.gvars _ _ _ h
    exact ⟨k1, C, e, fz, k2, k3.cut (σ'.cut_same H.length none 0) (hbel _ _ hr h)⟩, fun r s pe L h => by
    obtain ⟨hr, h⟩ := hget _ _ h
    exact (S.loops _ _ _ _ h).cut hr (σ'.cut_same H.length none 0) rfl (hbel _ _ hr h), S.oths, cut_minj S _ _ _, fun r s pos h => by
    obtain ⟨hr, h⟩ := hget _ _ h
    exact (S.iters _ _ _ h).cut hr (σ'.cut_same H.length none 0)⟩
  · intro b r d n h
    rw [hlen]
    simp only [Inj.cut] at h
    split at h
    · rename_i r' d' n' hf
      split at h
      · cases h; exact ⟨by assumption, (S.lt _ _ _ _ hf).2⟩
      · cases h
    · cases h
  · intro r b h
    rw [hlen]
    simp only [Inj.cut] at h
    split at h
    · exact ⟨by assumption, (S.mlt _ _ h).2⟩
    · cases h
  · intro r cells ver stale ro h
    obtain ⟨hr, h⟩ := hget _ _ h
    exact (S.rows _ _ _ _ _ h).cut hr (hbel _ _ hr h) none 0
  · intro r l h
    obtain ⟨hr, h⟩ := hget _ _ h
    obtain ⟨b, es, clock, h1, h2, h3, h4⟩ := (S.maps _ _ h).at_
    have hs := σ'.cut_same H.length none 0
    exact ⟨b, es, clock, hs.map _ _ hr h1, h2, h3, h4.cut hs (hbel _ _ hr h)⟩

/-- All new rows are left out but one. -/
theorem Sim.truncKeep (S0 : Sim base w0 σ H w) (S : Sim base w0 σ' H' w') (hp : PrefOk H H') {r ver st off n : Nat} {cells : List AV} (hr : H.length ≤ r) (hrow : H'[r]? = some (.row cells ver st false))
    (hb : ∀ v ∈ (cells.drop off).take n, Bel H.length v) {d : Int} {m : Nat} (hf : σ'.fam (σ'.canon r) = some (r, d, m)) :
    Sim base w0 (σ'.cut H.length (some (r, σ'.canon r, d + off, m)) ((cells.drop off).take n).length) (H'.take H.length ++ [.row ((cells.drop off).take n) 0 n false]) w' := by
  have hbel : ∀ r o, r < H.length → H'[r]? = some o → ObjBel H.length o := fun r o hr ho => (hp.2 r o hr ho).elim (fun h => S0.objBel h) id
  have hlen : (H'.take H.length).length = H.length := by rw [List.length_take]; exact Nat.min_eq_left hp.1
  have hget : ∀ q o, (H'.take H.length)[q]? = some o → q < H.length ∧ H'[q]? = some o := by
    intro r o h
    rcases Nat.lt_or_ge r H.length with hr | hr
    · rw [List.getElem?_take_of_lt hr] at h; exact ⟨hr, h⟩
    · rw [List.getElem?_eq_none (by omega)] at h; cases h
  have hs := σ'.cut_same H.length (some (r, σ'.canon r, d + off, m)) ((cells.drop off).take n).length
  have R := S.rows _ _ _ _ _ hrow
  have hfamN : ∀ b d' n', (σ'.cut H.length (some (r, σ'.canon r, d + off, m)) ((cells.drop off).take n).length).fam b = some (H.length, d', n') → b = σ'.canon r ∧ d' = d + off ∧ n' = m := by
    intro b d' n' h
    simp only [Inj.cut] at h
    split at h
    · split at h
      · cases h; omega
      · split at h
        · rename_i e; cases h; exact ⟨e, rfl, rfl⟩
        · cases h
    · cases h
  have hfN : (σ'.cut H.length (some (r, σ'.canon r, d + off, m)) ((cells.drop off).take n).length).fam (σ'.canon r) = some (H.length, d + off, m) := by
    simp only [Inj.cut, hf]
    rw [if_neg (by omega)]
    simp
  have hcells : ∀ (p : Nat) (v : AV), ((cells.drop off).take n)[p]? = some v → CellAt (σ'.cut H.length (some (r, σ'.canon r, d + off, m)) ((cells.drop off).take n).length) w' (σ'.canon r) (d + off + p) v := by
    intro p v hp
    have hv := List.mem_of_getElem? hp
    have hp' : cells[off + p]? = some v := by
      rcases Nat.lt_or_ge p n with h1 | h1
      · rw [List.getElem?_take_of_lt h1, List.getElem?_drop] at hp; exact hp
      · rw [List.getElem?_eq_none (by simp; omega)] at hp; cases hp
    obtain ⟨d', n', hf', hc⟩ := R.new
    rw [hf] at hf'; cases hf'
    rcases hc _ _ hp' with h1 | ⟨q, c, h1, h2, h3⟩
    · exact .inl h1
    · exact .inr ⟨q, c, by push_cast at h1; omega, h2, h3.cut hs (hb v hv)⟩
  refine ⟨S.below, S.size, ?_, ?_, ?_, ?_, fun r g c h => by
    obtain ⟨hr, h⟩ := hget _ _ (gv_push h)
    obtain ⟨k1, C, e, fz, k2, k3⟩ := S.gvars _ _ _ h
    exact ⟨k1, C, e, fz, k2, k3.cut hs (hbel _ _ hr h)⟩, fun r s pe L h => by
    obtain ⟨hr, h⟩ := hget _ _ (loop_push h)
    exact (S.loops _ _ _ _ h).cut hr hs rfl (hbel _ _ hr h), S.oths, cut_minj S _ _ _, fun r s pos h => by
    obtain ⟨hr, h⟩ := hget _ _ (iter_push h)
    exact (S.iters _ _ _ h).cut hr hs⟩
  · intro b r' d' n' h
    rw [List.length_append, hlen]
    simp only [Inj.cut] at h
    split at h
    · rename_i r1 d1 n1 hf1
      split at h
      · rename_i hlt; cases h; exact ⟨by simp; omega, (S.lt _ _ _ _ hf1).2⟩
      · split at h
        · cases h; exact ⟨by simp, (S.lt _ _ _ _ hf1).2⟩
        · cases h
    · cases h
  · intro r' b h
    rw [List.length_append, hlen]
    simp only [Inj.cut] at h
    split at h
    · rename_i hlt; exact ⟨by simp; omega, (S.mlt _ _ h).2⟩
    · cases h
  · intro r' c1 v1 s1 o1 h
    rcases Nat.lt_or_ge r' H.length with hlt | hge
    · rw [List.getElem?_append_left (by omega)] at h
      obtain ⟨hr', h⟩ := hget _ _ h
      exact (S.rows _ _ _ _ _ h).cut hr' (hbel _ _ hr' h) _ _
    · rw [List.getElem?_append_right (by omega), hlen] at h
      have hr0 : r' = H.length := by
        rcases Nat.lt_or_ge (r' - H.length) 1 with h1 | h1
        · omega
        · rw [List.getElem?_eq_none (by simpa using h1)] at h; cases h
      subst hr0
      simp only [Nat.sub_self, List.getElem?_cons_zero, Option.some.injEq, AObj.row.injEq] at h
      obtain ⟨rfl, rfl, rfl, rfl⟩ := h
      refine ⟨by simp [Inj.cut], by simp [Inj.cut], ?_, ?_⟩
      · have hcan : (σ'.cut H.length (some (r, σ'.canon r, d + off, m)) ((cells.drop off).take n).length).canon H.length = σ'.canon r := by simp [Inj.cut]
        rw [hcan]
        exact ⟨_, _, hfN, hcells⟩
      · intro b d' n' h
        obtain ⟨rfl, rfl, rfl⟩ := hfamN _ _ _ h
        obtain ⟨g1, g2, _⟩ := R.all _ _ _ hf
        exact ⟨g1, g2, fun p v _ hv => hcells p v hv⟩
  · intro r' l h
    rcases Nat.lt_or_ge r' H.length with hlt | hge
    · rw [List.getElem?_append_left (by omega)] at h
      obtain ⟨hr', h⟩ := hget _ _ h
      obtain ⟨b, es, clock, h1, h2, h3, h4⟩ := (S.maps _ _ h).at_
      exact ⟨b, es, clock, hs.map _ _ hr' h1, h2, h3, h4.cut hs (hbel _ _ hr' h)⟩
    · rw [List.getElem?_append_right (by omega), hlen] at h
      rcases Nat.lt_or_ge (r' - H.length) 1 with h1 | h1
      · have : r' - H.length = 0 := by omega
        rw [this] at h; simp at h
      · rw [List.getElem?_eq_none (by simpa using h1)] at h; cases h

/-- A slice over a new row that is all that is kept. -/
def finSlice (N : Nat) (H' : AH) : AV → Option (AV × AObj)
  | .slice (some r) off len ver sz full =>
    if N ≤ r then
      match H'[r]? with
      | some (.row cells ver' _ false) =>
        if ver' = ver ∧ off + len * sz ≤ cells.length ∧ ((cells.drop off).take (len * sz)).all (belB N 4) = true then
          some (.slice (some N) 0 len 0 sz full, .row ((cells.drop off).take (len * sz)) 0 (len * sz) false)
        else none
      | _ => none
    else none
  | _ => none

def finList (N : Nat) (H' : AH) : List AV → Option (List AV × Option AObj)
  | [] => some ([], none)
  | v :: vs =>
    if belB N 4 v then (finList N H' vs).map fun (l, o) => (v :: l, o)
    else match finSlice N H' v with
      | some (v', o) => if vs.all (belB N 4) then some (v' :: vs, some o) else none
      | none => none

def finish (N : Nat) (H' : AH) (v : AV) : AV × AH :=
  if belB N 4 v then (v, H'.take N) else
  match v with
  | .tuple vs => match finList N H' vs with
    | some (vs', some o) => (.tuple vs', H'.take N ++ [o])
    | _ => (v, H')
  | v => match finSlice N H' v with
    | some (v', o) => (v', H'.take N ++ [o])
    | none => (v, H')

theorem finSlice_sound (S0 : Sim base w0 σ H w) (hl : σ.le σ') (S : Sim base w0 σ' H' w') (hp : PrefOk H H') {v v' : AV} {o : AObj} {c : Value} (h : finSlice H.length H' v = some (v', o)) (hv : RelV σ' v c) :
    ∃ σ2, σ.le σ2 ∧ σ'.same H.length σ2 ∧ Sim base w0 σ2 (H'.take H.length ++ [o]) w' ∧ RelV σ2 v' c := by
  unfold finSlice at h
  split at h
  case h_2 => cases h
  rename_i r off len ver sz full
  split at h
  case isFalse => cases h
  rename_i hr
  split at h
  case h_2 => cases h
  rename_i cells ver' st hrow
  split at h
  case isFalse => cases h
  rename_i hc
  obtain ⟨hver, hlen, hb⟩ := hc
  cases h
  have R := S.rows _ _ _ _ _ hrow
  obtain ⟨d, m, hf, _⟩ := R.new
  have hbel : ∀ v ∈ (cells.drop off).take (len * sz), Bel H.length v := fun v hv => .of_belB 4 v (by simp only [List.all_eq_true] at hb; exact hb v hv)
  have T := S0.truncKeep S hp hr hrow hbel hf
  refine ⟨_, le_cut S0 hl _ _, σ'.cut_same _ _ _, T, ?_⟩
  cases hv with
  | slice hf1 hv1 hc1 hl1 ho1 hfl hfin1 =>
    rename_i b o n cap sp d1
    have hbc : b = σ'.canon r := hc1 (by rw [R.ver]; exact hver.symm)
    subst hbc
    rw [hf] at hf1; cases hf1
    refine .slice (n := m) (d := d + off) ?_ (by simp [Inj.cut]) (fun _ => by simp [Inj.cut]) hl1 (fun hcap => ?_) hfl (fun _ => by
      have : len * sz ≤ cap * sz := Nat.mul_le_mul_right _ hl1
      simp only [Inj.cut, Nat.lt_irrefl, if_false, List.length_take]
      omega)
    · simp only [Inj.cut, hf]
      rw [if_neg (by omega)]
      simp
    · obtain ⟨g1, g2, g3⟩ := ho1 hcap
      exact ⟨by omega, g2, g3⟩

theorem finList_sound (S0 : Sim base w0 σ H w) (hl : σ.le σ') (S : Sim base w0 σ' H' w') (hp : PrefOk H H') : ∀ {vs vs' : List AV} {o : AObj} {cs : List Value}, finList H.length H' vs = some (vs', some o) → RelVs σ' vs cs →
    ∃ σ2, σ.le σ2 ∧ σ'.same H.length σ2 ∧ Sim base w0 σ2 (H'.take H.length ++ [o]) w' ∧ RelVs σ2 vs' cs
  | [], _, _, _, h, _ => by simp [finList] at h
  | v :: vs, vs', o, _, h, .cons (c := c) (cs := cs) h1 h2 => by
    simp only [finList] at h
    split at h
    · rename_i hb
      obtain ⟨⟨l, o'⟩, hf, he⟩ := Option.map_eq_some_iff.1 h
      cases he
      obtain ⟨σ2, g1, g2, g3, g4⟩ := finList_sound S0 hl S hp hf h2
      exact ⟨σ2, g1, g2, g3, .cons (h1.cut g2 (.of_belB 4 v hb)) g4⟩
    · split at h
      case h_2 => cases h
      rename_i v' o' hf
      split at h
      case isFalse => cases h
      rename_i hb
      cases h
      obtain ⟨σ2, g1, g2, g3, g4⟩ := finSlice_sound S0 hl S hp hf h1
      exact ⟨σ2, g1, g2, g3, .cons g4 (h2.cut g2 (Bels.of_all (fun v hv => .of_belB 4 v hv) hb))⟩

theorem finish_sound (S0 : Sim base w0 σ H w) (hl : σ.le σ') (S : Sim base w0 σ' H' w') (hp : PrefOk H H') {v : AV} {c : Value} (hv : RelV σ' v c) :
    ∃ σ2, σ.le σ2 ∧ Sim base w0 σ2 (finish H.length H' v).2 w' ∧ RelV σ2 (finish H.length H' v).1 c := by
  unfold finish
  split
  · rename_i hb
    exact ⟨_, le_cut S0 hl none 0, S0.trunc S hp, hv.cut (σ'.cut_same _ _ _) (.of_belB 4 v hb)⟩
  · split
    · rename_i vs _
      split
      · rename_i vs' o hf
        cases hv with
        | tuple hvs =>
          obtain ⟨σ2, g1, _, g3, g4⟩ := finList_sound S0 hl S hp hf hvs
          exact ⟨σ2, g1, g3, .tuple g4⟩
      · exact ⟨σ', hl, S, hv⟩
    · split
      · rename_i v' o hf
        obtain ⟨σ2, g1, _, g3, g4⟩ := finSlice_sound S0 hl S hp hf hv
        exact ⟨σ2, g1, g3, g4⟩
      · exact ⟨σ', hl, S, hv⟩

theorem AC_fin {P : Program} {f : FuncId} {args : List AV} {Q : AV → AH → Prop} (h : AC P f args H fun v H' => PrefOk H H' ∧ Q (finish H.length H' v).1 (finish H.length H' v).2) : AC P f args H Q := by
  intro base w0 σ w cargs S hr
  refine (h base w0 σ w cargs S hr).mono ?_
  rintro en w' ⟨c, σ', v, H', rfl, h2, h3, h4, h5, h6⟩
  obtain ⟨σ2, g1, g2, g3⟩ := finish_sound S h2 h3 h5 h4
  exact ⟨c, σ2, _, _, rfl, g1, g2, g3, h6⟩

/-! ### Functions -/
def argsEnv : Nat → List AV → Env
  | _, [] => []
  | k, v :: vs => (k, v) :: argsEnv (k + 1) vs

theorem eget_argsEnv : ∀ (vs : List AV) (k t : Nat), eget (argsEnv k vs) t = if t < k then .undef else (vs[t - k]?).getD .undef
  | [], k, t => by simp [argsEnv, eget]
  | v :: vs, k, t => by
    simp only [argsEnv, eget, eget_argsEnv vs (k + 1) t]
    by_cases h1 : k = t
    · subst h1; simp
    · rw [if_neg h1]
      by_cases h2 : t < k
      · rw [if_pos h2, if_pos (by omega)]
      · rw [if_neg h2, if_neg (by omega), show t - k = (t - (k + 1)) + 1 by omega]
        simp

def aRes1 (P : Program) (e : Env) (H : AH) : ResultVar → Option AV
  | .tmp t => some (eget e t)
  | .cell a t => aRead P (oval e) H (.load t (.tmp a))

def aResList (P : Program) (e : Env) (H : AH) : List ResultVar → Option (List AV)
  | [] => some []
  | r :: rs => (aRes1 P e H r).bind fun v => (aResList P e H rs).map (v :: ·)

def aResults (P : Program) (fn : Func) (e : Env) (H : AH) : Option AV :=
  (aResList P e H fn.results.toList).map fun | [v] => v | vs => .tuple vs

def resVar (tmps : Array Value) : ResultVar → Sem Value
  | .tmp t => pure (tmps.getD t undef)
  | .cell b t => do loadVar t (← asAddr (tmps.getD b undef))

theorem results_eq (fn : Func) (tmps : Array Value) : results fn tmps = (do let vs ← fn.results.mapM (resVar tmps); pure (if h : vs.size = 1 then vs[0] else .tuple vs)) := by
  unfold results
  have : (fun x : ResultVar => match x with | .tmp t => (pure (tmps.getD t undef) : Sem Value) | .cell a t => do loadVar t (← asAddr (tmps.getD a undef))) = resVar tmps := by
    funext x; cases x <;> rfl
  rw [← this]
  congr 2

theorem aResList_sound {P : Program} {nt : Nat} {e : Env} {a : Act} (S : Sim base w0 σ H w) (hr : ERel σ nt e a) : ∀ {rs : List ResultVar} {vs : List AV}, aResList P e H rs = some vs →
    ∃ cs, RelVs σ vs cs ∧ (rs.mapM (resVar a.tmps)).run P w = .ok cs w
  | [], vs, h => by simp [aResList] at h; subst h; exact ⟨[], .nil, by simp⟩
  | r :: rs, vs, h => by
    simp only [aResList, Option.bind_eq_some_iff, Option.map_eq_some_iff] at h
    obtain ⟨v, h1, l, h2, rfl⟩ := h
    obtain ⟨cs, g1, g2⟩ := aResList_sound S hr h2
    cases r with
    | tmp t =>
      simp only [aRes1, Option.some.injEq] at h1
      subst h1
      exact ⟨_, .cons (hr.2.2 t) g1, by simp [List.mapM_cons, resVar, g2]⟩
    | cell b t =>
      simp only [aRes1] at h1
      obtain ⟨c, k1, k2⟩ := aRead_sound (o := { (default : Oper) with op := .load t (.tmp b) }) (oval_rel hr) S h1
      refine ⟨c :: cs, .cons k1 g1, ?_⟩
      have hb := hr.2.2 b
      have hptr : ∃ ad, a.tmps.getD b undef = .pointer (some ad) := by
        unfold aRead at h1
        simp only [oval] at h1
        split at h1
        case h_3 => cases h1
        all_goals
          rename_i hv
          rw [hv] at hb
          generalize a.tmps.getD b undef = x at hb ⊢
          cases hb
          exact ⟨_, rfl⟩
      obtain ⟨ad, had⟩ := hptr
      have hl : (loadVar t ad).run P w = .ok c w := by
        simp only [execOp, Act.eval, had, Instr.loadAt, Instr.sureAddr, Sem.run_bind, Sem.run_pure, Result.andThen_ok] at k2
        cases hx : (loadVar t ad).run P w with
        | ok u w1 => rw [hx] at k2; simp at k2; obtain ⟨rfl, rfl⟩ := k2; rfl
        | halt q w1 => rw [hx] at k2; simp at k2
      simp [List.mapM_cons, resVar, had, asAddr, hl, g2]

/-! ### Blocks that are no rows -/
/-- The same, of other blocks that are no rows. -/
def Inj.woth (σ : Inj) (f : Nat → Option Bool) : Inj := { σ with oth := f }
mutual
theorem RelV.woth {σ : Inj} {f : Nat → Option Bool} : ∀ {v : AV} {c : Value}, RelV σ v c → RelV (σ.woth f) v c
  | _, _, .undef v => .undef v
  | _, _, .bool b => .bool b
  | _, _, .int k n => .int k n
  | _, _, .str s => .str s
  | _, _, .nilptr => .nilptr
  | _, _, .ptr hf ho hv hc => .ptr hf ho hv hc
  | _, _, .nilslice => .nilslice
  | _, _, .slice hf hv hc hl ho hfull hfin => .slice hf hv hc hl ho hfull hfin
  | _, _, .nilmap => .nilmap
  | _, _, .map hf => .map hf
  | _, _, .nilfunc => .nilfunc
  | _, _, .func fn h1 h2 => .func fn (RelVs.woth h1) (RelVs.woth h2)
  | _, _, .niliface => .niliface
  | _, _, .iface t h1 => .iface t (RelV.woth h1)
  | _, _, .agg h1 => .agg (RelVs.woth h1)
  | _, _, .tuple h1 => .tuple (RelVs.woth h1)
  | _, _, .gptr g off => .gptr g off
  | _, _, .clip hf hv hc ho => .clip hf hv hc ho
  | _, _, .yld hf => .yld hf
  | _, _, .iter hf => .iter hf
  | _, _, .part hf hv hc hl ho => .part hf hv hc hl ho
theorem RelVs.woth {σ : Inj} {f : Nat → Option Bool} : ∀ {vs : List AV} {cs : List Value}, RelVs σ vs cs → RelVs (σ.woth f) vs cs
  | _, _, .nil => .nil
  | _, _, .cons h1 h2 => .cons (RelV.woth h1) (RelVs.woth h2)
end
theorem RelEs.woth {σ : Inj} {f : Nat → Option Bool} : ∀ {l : List (AV × AV)} {es : List MapEntry}, RelEs σ l es → RelEs (σ.woth f) l es
  | [], [], h => h
  | _ :: _, _ :: _, h => ⟨h.1.woth, h.2.1.woth, RelEs.woth h.2.2⟩
theorem CellAt.put {b o' : Nat} {o : Int} {v : AV} {f : Nat → Option Bool} {x : Obj} (h : CellAt σ w b o v) (hb : b ≠ o') : CellAt (σ.woth f) (w.putObj o' x) b o v := by
  rcases h with h | ⟨k, c, h1, h2, h3⟩
  · exact .inl h
  · exact .inr ⟨k, c, h1, (World.cell?_of_block (w := w) (World.putObj_heap_other hb)).trans h2, h3.woth⟩
theorem Sim.putObj (S : Sim base w0 σ H w) {b : Nat} {o o' : Obj} (hb : base ≤ b) (ho : w.heap[b]? = some o) (hc : o.isCells = false) {H' : AH} {f : Nat → Option Bool} (hlen : H'.length = H.length)
    (hrows : ∀ (r : Nat) (c : List AV) (v s : Nat) (ro : Bool), H'[r]? = some (AObj.row c v s ro) → H[r]? = some (AObj.row c v s ro)) (hmaps : ∀ (r : Nat) (l : List (AV × AV)), H'[r]? = some (AObj.map l) → H[r]? = some (AObj.map l) ∧ σ.mapAt r ≠ some b)
    (hgv : ∀ (r g : Nat) (c : List AV), H'[r]? = some (AObj.gvar g c) → H[r]? = some (AObj.gvar g c))
    (hloops : ∀ (r : Nat) (s : LoopState) (pe : Ex) (L : LR), H'[r]? = some (.loop s pe L) → LoopOk base (σ.woth f) (w.putObj b o') r s pe L)
    (hoths : ∀ k x, f k = some x → base ≤ k ∧ OthAt (w.putObj b o') k x)
    (hits : ∀ (r : Nat) (s : List UInt8) (pos : Nat), H'[r]? = some (.iter s pos) → ItOk base (σ.woth f) (w.putObj b o') r s pos) : Sim base w0 (σ.woth f) H' (w.putObj b o') := by
  have hne : ∀ {k : Nat} {c : Array Value} {e : TypeId} {fz : Nat × Nat}, w.heap[k]? = some (.cells c e fz) → k ≠ b := by
    rintro k c e fz hk rfl
    rw [ho] at hk; cases hk; cases hc
  refine ⟨S.below.trans ⟨rfl, rfl, rfl, by simp, fun k hk => World.putObj_heap_other (by omega)⟩, by rw [World.putObj_size]; exact S.size, fun k r d n h => ?_, fun r k h => ?_, fun r c v s ro h => ?_, fun r l h => ?_, fun r g c h => ?_, hloops, hoths, S.minj, hits⟩
  · rw [World.putObj_size, hlen]; exact S.lt k r d n h
  · rw [World.putObj_size, hlen]; exact S.mlt r k h
  · have R := S.rows r c v s ro (hrows r c v s ro h)
    refine ⟨R.ver, R.fin, ?_, fun k d n hf => ?_⟩
    · obtain ⟨d, n, h1, h2⟩ := R.new
      obtain ⟨-, ⟨c1, e1, f1, g1, -, -⟩, -⟩ := R.all _ _ _ h1
      exact ⟨d, n, h1, fun p u hp => (h2 p u hp).put (hne g1)⟩
    · obtain ⟨g0, ⟨c1, e1, f1, g1, g2, g3⟩, g4⟩ := R.all k d n hf
      exact ⟨g0, ⟨c1, e1, f1, by rw [World.putObj_heap_other (hne g1)]; exact g1, g2, g3⟩, fun p u hp hu => (g4 p u hp hu).put (hne g1)⟩
  · obtain ⟨h1, h2⟩ := hmaps r l h
    obtain ⟨k, es, clock, g1, g2, g3, g4⟩ := (S.maps r l h1).at_
    exact ⟨k, es, clock, g1, g2, by rw [World.putObj_heap_other (fun e => h2 (by rw [← e]; exact g1))]; exact g3, g4.woth⟩
  · obtain ⟨h1, C, e, fz, h2, h3⟩ := S.gvars r g c (hgv r g c h)
    exact ⟨h1, C, e, fz, h2, h3.woth⟩
theorem OthAt.put_other {w : World} {b k : Nat} {x : Bool} {o : Obj} (h : OthAt w k x) (hk : k ≠ b) : OthAt (w.putObj b o) k x := by
  cases x with
  | false => exact (World.putObj_heap_other hk).trans h
  | true => obtain ⟨R, h⟩ := h; exact ⟨R, (World.putObj_heap_other hk).trans h⟩
/-- Another object than an iterator turns. -/
theorem ItOk.put {r b : Nat} {s : List UInt8} {pos : Nat} {o o' : Obj} {f : Nat → Option Bool} (h : ItOk base σ w r s pos) (ho : w.heap[b]? = some o) (hi : (match o with | .stringIter .. => true | _ => false) = false) : ItOk base (σ.woth f) (w.putObj b o') r s pos := by
  obtain ⟨k, h1, h2, h3⟩ := h
  refine ⟨k, h1, h2, ?_⟩
  rw [World.putObj_heap_other (fun e => by subst e; rw [h3] at ho; cases ho; simp at hi)]
  exact h3
/-- The block of a loop's deferred calls, of which there are none, is shut. -/
theorem Sim.shut (S : Sim base w0 σ H w) {D : Nat} (hD : σ.oth D = some false) : Sim base w0 (σ.woth fun b => if b = D then none else σ.oth b) H (w.putObj D (.deferred none)) := by
  obtain ⟨hb, ho⟩ := S.oths D false hD
  have ho : w.heap[D]? = some (.deferred (some [])) := ho
  refine S.putObj hb ho rfl rfl (fun _ _ _ _ _ h => h) (fun r l h => ⟨h, fun e => ?_⟩) (fun _ _ _ h => h) (fun r s pe L h => ?_) (fun k x hk => ?_) (fun r s pos h => ?_)
  · obtain ⟨k, es, clock, g1, -, g3, -⟩ := (S.maps r l h).at_
    rw [e] at g1; cases g1
    rw [ho] at g3; cases g3
  · obtain ⟨k, R, h1, h2, h3, h4, h5, h6, h7, h8, h9, h10, h11⟩ := (S.loops r s pe L h).at_
    have hne : k ≠ D := by rintro rfl; rw [ho] at h3; cases h3
    refine ⟨k, R, h1, h2, ?_, h4, h5, h6, h7, h8, h9, fun t => (h10 t).woth, ?_⟩
    · rw [World.putObj_heap_other hne]
      exact h3
    · simp only [Inj.woth]
      rw [if_neg hne]; exact h11
  · split at hk
    · cases hk
    · rename_i hne
      obtain ⟨g1, g2⟩ := S.oths k x hk
      exact ⟨g1, g2.put_other hne⟩
  · exact (S.iters r s pos h).put ho rfl

theorem leaves_marks {P : Program} {fn : Func} {R : Ending → World → Prop} {nt : Nat} {e : Env} {a : Act} (hr : ∀ (σ1 : Inj) (w1 : World), σ.le σ1 → Sim base w0 σ1 H w1 → ERel σ1 nt e a → ∃ v, (results fn a.tmps).run P w1 = .ok v w1 ∧ R (.returned v) w1) :
    ∀ (new : List Nat) (σ1 : Inj) (w1 : World), new.Nodup → (∀ D ∈ new, σ1.oth D = some false ∧ σ.oth D = none) → σ.le σ1 → Sim base w0 σ1 H w1 → ERel σ1 nt e a → LeavesInM (fc none) 0 P fn a.tmps R (new.map markOf) .returning w1
  | [], σ1, w1, _, _, hl, S1, hE => hr σ1 w1 hl S1 hE
  | D :: new, σ1, w1, hnd, hm, hl, S1, hE => by
    obtain ⟨h1, h2⟩ := hm D (by simp)
    have ho : w1.heap[D]? = some (.deferred (some [])) := (S1.oths D false h1).2
    rw [List.nodup_cons] at hnd
    refine ⟨by simp, .inl ⟨D, _, rfl, run_takeDeferred ho, ?_⟩⟩
    refine leaves_marks hr new _ _ hnd.2 (fun D' hD' => ?_) ?_ (S1.shut h1) ⟨hE.1, hE.2.1, fun t => (hE.2.2 t).woth⟩
    · have hne : D' ≠ D := fun e => hnd.1 (e ▸ hD')
      simp only [Inj.woth]
      rw [if_neg hne]
      exact hm D' (by simp [hD'])
    · refine ⟨hl.fam, hl.fin, hl.map, fun b k hk => ?_⟩
      simp only [Inj.woth]
      split
      · rename_i e; subst e; rw [h2] at hk; cases hk
      · exact hl.oth b k hk

theorem AC_of_body {P : Program} {f : FuncId} {fn : Func} {c : Code} {args : List AV} {nt : Nat} {Q : AV → AH → Prop} (hf : P.funcs[f]? = some fn) (hb : fn.body = some c) (hnt : nt = max args.length fn.ntmps)
    (h : AW P nt c (argsEnv 0 args) H fun x e' H' => (x = .normal ∨ x = .ret) ∧ ∃ v, aResults P fn e' H' = some v ∧ Q v H') : AC P f args H Q := by
  intro base w0 σ w cargs S hr
  have hlen := hr.length
  refine (callsIn_wide (n := 0)).1 (callsIn_of_wp_marks (F := fc none) hf hb trivial ?_)
  have hE : ERel σ nt (argsEnv 0 args) { tmps := cargs ++ Array.replicate (fn.ntmps - cargs.size) undef, defers := [] } := by
    simp only [Array.length_toList] at hlen
    refine ⟨by simp; omega, trivial, fun t => ?_⟩
    rw [eget_argsEnv]
    simp only [Nat.not_lt_zero, if_false, Nat.sub_zero]
    cases hv : args[t]? with
    | none => exact .undef _
    | some v =>
      obtain ⟨c1, h1, h2⟩ := hr.get hv
      rw [Array.getElem?_toList] at h1
      have : (cargs ++ Array.replicate (fn.ntmps - cargs.size) undef)[t]? = some c1 := by
        have hlt : t < cargs.size := by
          rcases Nat.lt_or_ge t cargs.size with h3 | h3
          · exact h3
          · rw [Array.getElem?_eq_none h3] at h1; cases h1
        rw [Array.getElem?_append_left hlt]; exact h1
      rw [Array.getD_eq_getD_getElem?, this]
      exact h2
  refine wpIn_mono (h none base w0 σ w _ (fun _ h => by cases h) S hE) ?_
  rintro ex a' w' ⟨x, σ', e', H', rfl, h2, h3, h4, ⟨new, hd, hnd, hnew⟩, hx, v, hv, hq⟩
  rw [List.append_nil] at hd
  have key : LeavesInM (fc none) 0 P fn a'.tmps (fun en w' => ∃ c σ' v H', en = .returned c ∧ σ.le σ' ∧ Sim base w0 σ' H' w' ∧ RelV σ' v c ∧ Q v H') a'.defers .returning w' := by
    rw [hd]
    refine leaves_marks (σ := σ) (fun σ1 w1 hl1 S1 hE1 => ?_) new σ' w' hnd hnew h2 h3 h4
    obtain ⟨vs, hvs, hv'⟩ := Option.map_eq_some_iff.1 hv
    obtain ⟨cs, g1, g2⟩ := aResList_sound (P := P) S1 hE1 hvs
    have hres : ∃ c, RelV σ1 v c ∧ (results fn a'.tmps).run P w1 = .ok c w1 := by
      have hm : (results fn a'.tmps).run P w1 = .ok (if h : cs.toArray.size = 1 then cs.toArray[0] else .tuple cs.toArray) w1 := by
        rw [results_eq, Array.mapM_eq_mapM_toList]
        simp only [Sem.run_bind, Sem.run_map, g2, Result.andThen_ok, Sem.run_pure]
      refine ⟨_, ?_, hm⟩
      have hl := g1.length
      cases g1 with
      | nil => simp only [] at hv'; subst hv'; exact .tuple .nil
      | cons k1 k2 =>
        cases k2 with
        | nil => simp only [] at hv'; subst hv'; exact k1
        | cons k3 k4 => simp only [] at hv'; subst hv'; exact .tuple (.cons k1 (.cons k3 k4))
    obtain ⟨c1, r1, r2⟩ := hres
    exact ⟨c1, r2, c1, σ1, v, H', rfl, hl1, S1, r1, hq⟩
  rcases hx with rfl | rfl
  · exact key
  · exact key
end
end Go.Proofs.Ytbimapbcpmeooaa.AX

/- A plain reading of runs: loops over functions, and their rounds. -/
namespace Go.Proofs.Ytbimapbcpmeooaa.AX
open Go Go.RowKit

section
variable {base : Nat} {w0 w w' : World} {σ σ' : Inj} {H H' : AH}

/-- A loop's record turns. -/
theorem Sim.setLoop (S : Sim base w0 σ H w) {r b : Nat} {s : LoopState} {pe : Ex} {L : LR} {R : Loop} (hr : H[r]? = some (.loop s pe L)) (hb : σ.mapAt r = some b) (hh : w.heap[b]? = some (.loop R)) (s' : LoopState) (pe' : Ex) :
    Sim base w0 σ (H.set r (.loop s' pe' L)) (w.putObj b (.loop { R with state := s', pending := pe'.code })) := by
  obtain ⟨b1, R1, h1, h2, h3, h4, h5, h6, h7, h8, h9, h10, h11⟩ := (S.loops r s pe L hr).at_
  rw [hb] at h1; cases h1
  rw [hh] at h3; cases h3
  have hlt := (Array.getElem?_eq_some_iff.1 hh).1
  have hrl := (List.getElem?_eq_some_iff.1 hr).1
  have hset : ∀ (q : Nat) (o : AObj), (H.set r (.loop s' pe' L))[q]? = some o → (q = r ∧ o = .loop s' pe' L) ∨ (q ≠ r ∧ H[q]? = some o) := by
    intro q o h
    rw [List.getElem?_set] at h
    split at h
    · rename_i e; subst e; simp at h; exact .inl ⟨rfl, h.symm⟩
    · rename_i hne; exact .inr ⟨fun e => hne e.symm, h⟩
  refine S.putObj (f := σ.oth) h2 hh rfl (by simp) (fun q c v s ro h => ?_) (fun q l h => ?_) (fun q g c h => ?_) (fun q s2 pe2 L2 h => ?_) (fun k x hk => ?_) (fun q s pos h => ?_)
  · rcases hset _ _ h with ⟨-, e⟩ | ⟨-, h⟩
    · cases e
    · exact h
  · rcases hset _ _ h with ⟨-, e⟩ | ⟨hne, h⟩
    · cases e
    · exact ⟨h, fun e => hne (S.minj _ _ _ e hb)⟩
  · rcases hset _ _ h with ⟨-, e⟩ | ⟨-, h⟩
    · cases e
    · exact h
  · rcases hset _ _ h with ⟨rfl, e⟩ | ⟨hne, h⟩
    · cases e
      exact ⟨b, { R with state := s', pending := pe'.code }, hb, h2, World.putObj_heap_same hlt, rfl, rfl, h6, h7, h8, h9, fun t => (h10 t).woth, h11⟩
    · obtain ⟨k, R2, g1, g2, g3, g4, g5, g6, g7, g8, g9, g10, g11⟩ := (S.loops q s2 pe2 L2 h).at_
      refine ⟨k, R2, g1, g2, ?_, g4, g5, g6, g7, g8, g9, fun t => (g10 t).woth, g11⟩
      rw [World.putObj_heap_other (fun e => hne (S.minj _ _ _ (by rw [e] at g1; exact g1) hb))]
      exact g3
  · obtain ⟨g1, g2⟩ := S.oths k x hk
    refine ⟨g1, ?_⟩
    by_cases e : k = b
    · subst e
      cases x with
      | false => have : w.heap[k]? = some (.deferred (some [])) := g2; rw [hh] at this; cases this
      | true => exact ⟨_, World.putObj_heap_same hlt⟩
    · exact g2.put_other e
  · rcases hset _ _ h with ⟨-, e⟩ | ⟨-, h⟩
    · cases e
    · exact (S.iters q s pos h).put hh rfl

/-- A block for deferred calls. -/
theorem Sim.newDfr (S : Sim base w0 σ H w) : σ.le (σ.woth fun b => if b = w.heap.size then some false else σ.oth b) ∧ σ.oth w.heap.size = none ∧ Sim base w0 (σ.woth fun b => if b = w.heap.size then some false else σ.oth b) H (w.alloc (.deferred (some []))) := by
  have hno : σ.oth w.heap.size = none := by
    cases h : σ.oth w.heap.size with
    | none => rfl
    | some k => have := (S.oths _ _ h).2.lt; omega
  have hle : σ.le (σ.woth fun b => if b = w.heap.size then some false else σ.oth b) := by
    refine ⟨fun b r d n h => ⟨h, Nat.le_refl _, fun _ => rfl⟩, fun _ _ _ _ _ _ => rfl, fun _ _ h => h, fun b k h => ?_⟩
    simp only [Inj.woth]
    rw [if_neg (fun e => by rw [e, hno] at h; cases h)]
    exact h
  have hk := (KeepsOthers.alloc w (.deferred (some []))).same
  have hold : ∀ b, b < w.heap.size → (w.alloc (.deferred (some []))).heap[b]? = w.heap[b]? := fun b hb => Below.heap_alloc _ _ _ hb
  have hsz : (w.alloc (.deferred (some []))).heap.size = w.heap.size + 1 := by simp
  have hS := S.size
  refine ⟨hle, hno, S.below.alloc S.size _, by omega, fun b r d n h => ?_, fun r b h => ?_, fun r c v s ro h => ?_, fun r l h => ?_, fun r g c h => (S.gvars r g c h).mono hle, S.loops_of hle hk (fun _ _ _ _ h => h), fun b k h => ?_, S.minj, S.iters_of hle hk (fun _ _ _ h => h)⟩
  · have := S.lt b r d n h; exact ⟨this.1, by omega⟩
  · have := S.mlt r b h; exact ⟨this.1, by omega⟩
  · have R := S.rows r c v s ro h
    refine ⟨R.ver, R.fin, ?_, fun b d n hf => ?_⟩
    · obtain ⟨d, n, h1, h2⟩ := R.new
      exact ⟨d, n, h1, fun p u hp => (h2 p u hp).mono hle (fun k _ => World.cell?_of_block (w := w) (hold _ (S.lt _ _ _ _ h1).2))⟩
    · obtain ⟨g0, ⟨c1, e1, f1, g1, g2, g3⟩, g4⟩ := R.all b d n hf
      have hb := (S.lt _ _ _ _ hf).2
      exact ⟨g0, ⟨c1, e1, f1, by rw [hold _ hb]; exact g1, g2, g3⟩, fun p u hp hu => (g4 p u hp hu).mono hle (fun k _ => World.cell?_of_block (w := w) (hold _ hb))⟩
  · obtain ⟨b, es, clock, g1, g2, g3, g4⟩ := (S.maps r l h).at_
    exact ⟨b, es, clock, g1, g2, by rw [hold _ (S.mlt _ _ g1).2]; exact g3, g4.mono hle⟩
  · simp only [Inj.woth] at h
    split at h
    · rename_i e; cases h; subst e; exact ⟨S.size, World.alloc_heap_new _ _⟩
    · exact ⟨(S.oths b k h).1, (S.oths b k h).2.mono hk⟩

def Inj.addLoop (σ : Inj) (r b : Nat) : Inj := { σ with mapAt := fun x => if x = r then some b else σ.mapAt x, oth := fun x => if x = b then some true else σ.oth x }
/-- A loop's record. -/
theorem Sim.newLoop (S : Sim base w0 σ H w) {R : Loop} {L : LR} (hs : R.state = .ready) (hp : R.pending = none) (h6 : R.tmps.size = L.nt) (h7 : R.params = L.ps) (h8 : R.assign = L.assign) (h9 : R.body = L.body) (h10 : ∀ t, RelV σ (eget L.e t) (R.tmps.getD t undef)) :
    σ.le (σ.addLoop H.length w.heap.size) ∧ Sim base w0 (σ.addLoop H.length w.heap.size) (H ++ [.loop .ready .normal L]) (w.alloc (.loop R)) := by
  have hno : σ.oth w.heap.size = none := by
    cases h : σ.oth w.heap.size with
    | none => rfl
    | some k => have := (S.oths _ _ h).2.lt; omega
  have hle : σ.le (σ.addLoop H.length w.heap.size) := by
    refine ⟨fun b r d n h => ⟨h, Nat.le_refl _, fun _ => rfl⟩, fun _ _ _ _ _ _ => rfl, fun r b h => ?_, fun b k h => ?_⟩
    · have := (S.mlt r b h).1
      simp only [Inj.addLoop]
      rw [if_neg (by omega)]
      exact h
    · simp only [Inj.addLoop]
      rw [if_neg (fun e => by rw [e, hno] at h; cases h)]
      exact h
  have hk := (KeepsOthers.alloc w (.loop R)).same
  have hold : ∀ b, b < w.heap.size → (w.alloc (.loop R)).heap[b]? = w.heap[b]? := fun b hb => Below.heap_alloc _ _ _ hb
  have hsz : (w.alloc (.loop R)).heap.size = w.heap.size + 1 := by simp
  have hS := S.size
  have hget : ∀ (q : Nat) (o : AObj), (H ++ [AObj.loop .ready .normal L])[q]? = some o → (q = H.length ∧ o = .loop .ready .normal L) ∨ (q < H.length ∧ H[q]? = some o) := by
    intro q o h
    rcases Nat.lt_or_ge q H.length with hq | hq
    · rw [List.getElem?_append_left hq] at h; exact .inr ⟨hq, h⟩
    · rw [List.getElem?_append_right hq] at h
      rcases Nat.lt_or_ge (q - H.length) 1 with h1 | h1
      · have e : q - H.length = 0 := by omega
        rw [e] at h; simp at h
        exact .inl ⟨by omega, h.symm⟩
      · rw [List.getElem?_eq_none (by simpa using h1)] at h; cases h
  refine ⟨hle, S.below.alloc S.size _, by omega, fun b r d n h => ?_, fun r b h => ?_, fun r c v s ro h => ?_, fun r l h => ?_, fun r g c h => ?_, fun r s pe L2 h => ?_, fun b k h => ?_, fun r r' b h h' => ?_, fun r s pos h => ?_⟩
  · have := S.lt b r d n h; rw [List.length_append]; exact ⟨by omega, by omega⟩
  · rw [List.length_append]
    simp only [Inj.addLoop] at h
    split at h
    · rename_i e; cases h; simp; omega
    · have := S.mlt r b h; exact ⟨by omega, by omega⟩
  · rcases hget _ _ h with ⟨-, e⟩ | ⟨-, h⟩
    · cases e
    have R := S.rows r c v s ro h
    refine ⟨R.ver, R.fin, ?_, fun b d n hf => ?_⟩
    · obtain ⟨d, n, h1, h2⟩ := R.new
      exact ⟨d, n, h1, fun p u hp => (h2 p u hp).mono hle (fun k _ => World.cell?_of_block (w := w) (hold _ (S.lt _ _ _ _ h1).2))⟩
    · obtain ⟨g0, ⟨c1, e1, f1, g1, g2, g3⟩, g4⟩ := R.all b d n hf
      have hb := (S.lt _ _ _ _ hf).2
      exact ⟨g0, ⟨c1, e1, f1, by rw [hold _ hb]; exact g1, g2, g3⟩, fun p u hp hu => (g4 p u hp hu).mono hle (fun k _ => World.cell?_of_block (w := w) (hold _ hb))⟩
  · rcases hget _ _ h with ⟨-, e⟩ | ⟨-, h⟩
    · cases e
    obtain ⟨b, es, clock, g1, g2, g3, g4⟩ := (S.maps r l h).at_
    exact ⟨b, es, clock, hle.map _ _ g1, g2, by rw [hold _ (S.mlt _ _ g1).2]; exact g3, g4.mono hle⟩
  · rcases hget _ _ h with ⟨-, e⟩ | ⟨-, h⟩
    · cases e
    · exact (S.gvars r g c h).mono hle
  · rcases hget _ _ h with ⟨rfl, e⟩ | ⟨-, h⟩
    · cases e
      exact ⟨w.heap.size, R, by simp [Inj.addLoop], S.size, World.alloc_heap_new _ _, hs, hp, h6, h7, h8, h9, fun t => (h10 t).mono hle, by simp [Inj.addLoop]⟩
    · exact (S.loops _ _ _ _ h).mono hle hk
  · simp only [Inj.addLoop] at h
    split at h
    · rename_i e; cases h; subst e; exact ⟨S.size, _, World.alloc_heap_new _ _⟩
    · exact ⟨(S.oths b k h).1, (S.oths b k h).2.mono hk⟩
  · simp only [Inj.addLoop] at h h'
    split at h
    · rename_i e
      cases h
      split at h'
      · rename_i e'; rw [e, e']
      · have := (S.mlt _ _ h').2; omega
    · split at h'
      · cases h'
        have := (S.mlt _ _ h).2; omega
      · exact S.minj _ _ _ h h'
  · rcases hget _ _ h with ⟨-, e⟩ | ⟨-, h⟩
    · cases e
    · exact (S.iters _ _ _ h).mono hle hk
end

section
variable {P : Program} {nt : Nat} {e : Env} {H : AH}

/-- The statement 'for .. := range f { .. }'. -/
theorem AW_rangeFunc' {e0 : Env} {g : Operand} {ps : Array Tmp} {assign body : Code} {Q : Ex → Env → AH → Prop} {f : FuncId} {caps : List AV} (hg : oval e0 g = .func (.func f) [] caps) (hok : okFn P f = true) (hee : ∀ (σ : Inj) (a : Act), ERel σ nt e0 a → ERel σ nt e a)
    (h : AC P f (.yld H.length :: caps) (H ++ [.loop .ready .normal ⟨nt, e, ps, assign, body⟩]) fun _ H' => ∃ s pe L, H'[H.length]? = some (.loop s pe L) ∧ s ≠ .busy ∧ Q pe e (H'.set H.length (.loop .exhausted pe L))) :
    AW P nt (.rangeFunc g ps assign body) e0 H Q := fun ro base w0 σ w a ho S hr0 => by
  refine wpIn_rangeFunc fun fn _ => ?_
  have hgc := oval_rel hr0 g
  have hr := hee σ a hr0
  rw [hg] at hgc
  generalize hgv : a.eval g = gv at hgc
  cases hgc with
  | func _ h1 h2 =>
  rename_i f2 c2
  have hf2 : f2 = #[] := by cases f2 with | mk l => cases l with | nil => rfl | cons x l => cases h1
  subst hf2
  -- what follows, however the record came to be
  have key : ∀ (l : Nat) (mark : List Deferred) (σ1 : Inj) (w1 : World) (R : Loop), σ.le σ1 → Sim base w0 σ1 (H ++ [.loop .ready .normal ⟨nt, e, ps, assign, body⟩]) w1 → σ1.mapAt H.length = some l → Marks σ σ1 a.defers { a with defers := mark ++ a.defers } →
      (Instr.enterLoop fn a.tmps ps assign body (fc ro).round).run P w = .ok (l, mark) w1 →
      ∃ (l : Nat) (mark : List Deferred) (w₁ : World) (d : Deferred) (w₁' : World) (f : FuncId) (args : Array Value) (w₂ : World),
      (Instr.enterLoop fn a.tmps ps assign body (fc ro).round).run P w = .ok (l, mark) w₁ ∧
      (resolve a.eval (rangeCall g l) 0).run P w₁ = .ok d w₁' ∧
      (∀ f', Target.leads P w₁' d.target d.args = some f' → (fc ro).fn f') ∧
      (invoke d.target d.args).run P w₁' = .ok (.enter f args) w₂ ∧
      ((fc ro).depth.isSome = true → 1 ≤ 0) ∧
      CallsIn (fc ro) (0 - 1) P f args w₂ (rangePost (fc ro) 0 P l (AWPost base w0 nt σ a.defers Q) { a with defers := mark ++ a.defers }) := by
    intro l mark σ1 w1 R hle S1 hmap hmk hent
    refine ⟨l, mark, w1, { target := .fn (.func f) c2, args := #[.func (.yield l) #[] #[]] }, w1, f, #[.func (.yield l) #[] #[]] ++ c2, w1, hent, ?_, fun _ _ => trivial, ?_, fun h => by simp [fc, Fence.wide] at h, ?_⟩
    · simp only [resolve, hgv]
      simp [Deferred.ofValue, Act.eval]
    · simp [invoke, run_callFunc hok]
    · have hargs : RelVs σ1 (.yld H.length :: caps) (#[Value.func (.yield l) #[] #[]] ++ c2).toList := by
        rw [Array.toList_append]
        exact .cons (.yld hmap) (RelVs.mono hle h2)
      refine fc_calls ((h base w0 σ1 w1 _ S1 hargs).mono ?_)
      rintro en w2 ⟨c, σ2, v, H', rfl, k1, k2, k3, s, pe, L', hrow, hs, hq⟩
      obtain ⟨b, R2, g1, g2, g3, g4, g5, -⟩ := (k2.loops _ _ _ _ hrow).at_
      have : b = l := by have := k1.map _ _ hmap; rw [g1] at this; cases this; rfl
      subst this
      have hend := run_endLoop (P := P) g3 (by rw [g4]; exact hs)
      have hS3 := k2.setLoop hrow g1 g3 .exhausted pe
      have hE : ERel σ2 nt e { a with defers := mark ++ a.defers } := ⟨hr.1, trivial, fun t => ((hr.2.2 t).mono hle).mono k1⟩
      have hM : Marks σ σ2 a.defers { a with defers := mark ++ a.defers } := by
        obtain ⟨new, e1, e2, e3⟩ := hmk
        exact ⟨new, e1, e2, fun D hD => ⟨k1.oth _ _ (e3 D hD).1, (e3 D hD).2⟩⟩
      refine ⟨_, _, hend, ?_⟩
      rw [g5]
      cases pe with
      | normal => exact ⟨.normal, σ2, e, _, rfl, hle.trans k1, hS3, hE, hM, hq⟩
      | exit i => exact wpIn_exit ⟨.exit i, σ2, e, _, rfl, hle.trans k1, hS3, hE, hM, hq⟩
      | goto i => exact wpIn_goto ⟨.goto i, σ2, e, _, rfl, hle.trans k1, hS3, hE, hM, hq⟩
      | ret => exact wpIn_ret ⟨.ret, σ2, e, _, rfl, hle.trans k1, hS3, hE, hM, hq⟩
  cases ro with
  | none =>
    obtain ⟨q1, q2, q3⟩ := S.newDfr
    have hsz : (w.alloc (.deferred (some []))).heap.size = w.heap.size + 1 := by simp
    obtain ⟨q4, q5⟩ := q3.newLoop (R := { state := .ready, pending := none, fn, tmps := a.tmps, params := ps, assign, body, defers := w.heap.size }) (L := ⟨nt, e, ps, assign, body⟩) rfl rfl hr.1 rfl rfl rfl (fun t => (hr.2.2 t).mono q1)
    rw [hsz] at q4 q5
    refine key (w.heap.size + 1) [{ target := .collected w.heap.size, args := #[] }] _ _ { state := .ready, pending := none, fn, tmps := a.tmps, params := ps, assign, body, defers := w.heap.size } (q1.trans q4) q5 (by simp [Inj.addLoop]) ⟨[w.heap.size], rfl, by simp, fun D hD => ?_⟩ (run_enterLoop_outer _ _ _ _ _)
    simp at hD; subst hD
    exact ⟨by simp [Inj.addLoop, Inj.woth], q2⟩
  | some l0 =>
    obtain ⟨-, R0, hR0⟩ := S.oths l0 true (ho l0 rfl)
    obtain ⟨q4, q5⟩ := S.newLoop (R := { state := .ready, pending := none, fn, tmps := a.tmps, params := ps, assign, body, defers := R0.defers }) (L := ⟨nt, e, ps, assign, body⟩) rfl rfl hr.1 rfl rfl rfl hr.2.2
    exact key w.heap.size [] _ _ { state := .ready, pending := none, fn, tmps := a.tmps, params := ps, assign, body, defers := R0.defers } q4 q5 (by simp [Inj.addLoop]) (.refl _ _ a) (run_enterLoop_inner hR0 _ _ _ _ _)

theorem AW_rangeFunc {g : Operand} {ps : Array Tmp} {assign body : Code} {Q : Ex → Env → AH → Prop} {f : FuncId} {caps : List AV} (hg : oval e g = .func (.func f) [] caps) (hok : okFn P f = true)
    (h : AC P f (.yld H.length :: caps) (H ++ [.loop .ready .normal ⟨nt, e, ps, assign, body⟩]) fun _ H' => ∃ s pe L, H'[H.length]? = some (.loop s pe L) ∧ s ≠ .busy ∧ Q pe e (H'.set H.length (.loop .exhausted pe L))) :
    AW P nt (.rangeFunc g ps assign body) e H Q := AW_rangeFunc' hg hok (fun _ _ hr => hr) h
/-- The same; some temporaries alone are kept. -/
theorem AW_rangeFunc_keep (ks : List Nat) {g : Operand} {ps : Array Tmp} {assign body : Code} {Q : Ex → Env → AH → Prop} {f : FuncId} {caps : List AV} (hg : oval e g = .func (.func f) [] caps) (hok : okFn P f = true)
    (h : AC P f (.yld H.length :: caps) (H ++ [.loop .ready .normal ⟨nt, ekeep ks e, ps, assign, body⟩]) fun _ H' => ∃ s pe L, H'[H.length]? = some (.loop s pe L) ∧ s ≠ .busy ∧ Q pe (ekeep ks e) (H'.set H.length (.loop .exhausted pe L))) :
    AW P nt (.rangeFunc g ps assign body) e H Q := AW_rangeFunc' hg hok (fun _ _ hr => hr.keep ks) h

/-! ### Rounds -/
def psEnv : List Nat → List AV → Env → Env
  | p :: ps, v :: vs, e => psEnv ps vs (eset e p v)
  | _, _, e => e
/-- One round of the loop whose record is row r. -/
def AYld (P : Program) (r : Nat) (args : List AV) (H : AH) (K : AV → AH → Prop) : Prop :=
  ∃ pe L, H[r]? = some (.loop .ready pe L) ∧ args.length = L.ps.size ∧ (L.ps.all fun p => decide (p < L.nt)) = true ∧
    AW P L.nt L.assign (psEnv L.ps.toList args L.e) H fun x e1 H1 => x = .normal ∧ ∃ pe1 L1, H1[r]? = some (.loop .ready pe1 L1) ∧
      AW P L.nt L.body e1 (H1.set r (.loop .busy pe1 L1)) fun x2 _ H2 => ∃ s2 pe2 L2, H2[r]? = some (.loop s2 pe2 L2) ∧ K (.bool (decide (x2 = .normal))) (H2.set r (.loop (if x2 = .normal then .ready else .done) x2 L2))

theorem psEnv_rel {σ : Inj} {nt : Nat} : ∀ {ps : List Nat} {vs : List AV} {cs : List Value} {e : Env} {tmps : Array Value} {ds : List Deferred}, (∀ p ∈ ps, p < nt) → RelVs σ vs cs → ERel σ nt e { tmps, defers := ds } →
    ERel σ nt (psEnv ps vs e) { tmps := (ps.zip cs).foldl (fun tmps x => tmps.setIfInBounds x.1 x.2) tmps, defers := ds }
  | [], _, _, e, tmps, ds, _, _, hE => by simpa [psEnv] using hE
  | p :: ps, _, _, e, tmps, ds, _, .nil, hE => by simpa [psEnv] using hE
  | p :: ps, _, _, e, tmps, ds, hp, .cons h1 h2, hE => by
    simp only [psEnv, List.zip_cons_cons, List.foldl_cons]
    have := hE.put (t := p) (hp p (by simp)) h1
    exact psEnv_rel (fun q hq => hp q (by simp [hq])) h2 this

def opYld (ρ : Operand → AV) : Op → Option (Nat × List AV)
  | .call { callee := .value g, args, .. } => match ρ g with
    | .yld r => some (r, args.toList.map ρ)
    | _ => none
  | _ => none

theorem opYld_sound {σ : Inj} {ρ : Operand → AV} {ρc : Operand → Value} (hρ : ∀ x, RelV σ (ρ x) (ρc x)) {o : Oper} {r : Nat} {args : List AV} (h : opYld ρ o.op = some (r, args)) :
    ∃ (l : Nat) (cargs : Array Value), σ.mapAt r = some l ∧ RelVs σ args cargs.toList ∧ (∀ w, (execOp ρc o).run P w = (Instr.yield l cargs).run P w) ∧ ∀ c, o.op ≠ .defer c := by
  unfold opYld at h
  unfold execOp
  split at h <;> first | (cases h; done) | skip
  rename_i g as ts heq
  rw [heq]; simp only []
  have hg := hρ g
  split at h
  case h_2 => cases h
  rename_i r' hv
  rw [hv] at hg
  cases h
  generalize hc : ρc g = c at hg
  cases hg with
  | yld hm =>
    rename_i b
    refine ⟨b, as.map ρc, hm, by rw [Array.toList_map]; exact RelVs.of_ops hρ _, fun w => ?_, fun c hc => by cases hc⟩
    simp [resolve, hc, Deferred.ofValue, invoke]

theorem AO_yield {ops : Array Oper} {Q : Env → AH → Prop} {o : Oper} {rest : List Oper} {r : Nat} {args : List AV} (hw : wantedA ops e o = some true) (hc : opYld (oval e) o.op = some (r, args)) (hd : dstOk nt o.dst = true)
    (h : AYld P r args H fun v H' => AO P nt ops rest (putDst e o.dst (some v)) H' Q) : AO P nt ops (o :: rest) e H Q := fun ro base w0 σ w a ho S hr => by
  obtain ⟨pe, L, hrow, hlen, hps, hA⟩ := h
  obtain ⟨l, cargs, hmap, hargs, hex, hnd⟩ := opYld_sound (P := P) (oval_rel hr) hc
  refine wpListIn_wanted (wantedA_sound hr hw) (oper_of hnd ?_)
  rw [hex]
  obtain ⟨b, R, h1, h2, h3, h4, h5, h6, h7, h8, h9, h10, h11⟩ := (S.loops _ _ _ _ hrow).at_
  rw [hmap] at h1; cases h1
  have hsz : cargs.size = R.params.size := by rw [h7, ← hlen, hargs.length]; simp
  rw [run_yield h3 hsz]
  simp only [Oper.uponIn]
  refine ⟨fun h => by simp [fc, Fence.wide] at h, roundIn_of_wpIn trivial ?_⟩
  have hF : (fc ro).inRound l = fc (some l) := rfl
  rw [hF, h8, h9]
  have hE0 : ERel σ L.nt (psEnv L.ps.toList args L.e) { tmps := (R.params.zip cargs).foldl (fun tmps x => tmps.setIfInBounds x.1 x.2) R.tmps, defers := [] } := by
    rw [← Array.foldl_toList, Array.toList_zip, h7]
    exact psEnv_rel (fun p hp => by
      rw [Array.all_eq_true'] at hps
      simpa using hps p (by simpa using hp)) hargs ⟨h6, trivial, h10⟩
  refine wpIn_mono (hA (some l) base w0 σ w _ (fun k e => by cases e; exact h11) S hE0) ?_
  rintro ex a1 w1 ⟨x, σ1, e1, H1, rfl, k2, k3, k4, k5, rfl, pe1, L1, hrow1, hB⟩
  obtain ⟨b1, R1, g1, g2, g3, g4, g5, g6, g7, g8, g9, g10, g11⟩ := (k3.loops _ _ _ _ hrow1).at_
  have hb1 : b1 = l := by have := k2.map _ _ hmap; rw [g1] at this; cases this; rfl
  subst hb1
  refine ⟨_, run_beginRound g3 g4, ?_⟩
  have hS2 := k3.setLoop hrow1 g1 g3 .busy pe1
  have hsame : ({ R1 with state := .busy, pending := pe1.code } : Loop) = { R1 with state := .busy } := by rw [← g5]
  rw [hsame] at hS2
  refine wpIn_mono (hB (some b1) base w0 σ1 _ a1 (fun k e => by cases e; exact g11) hS2 k4) ?_
  rintro ex2 a2 w2 ⟨x2, σ2, e2, H2, rfl, m2, m3, m4, m5, s2, pe2, L2, hrow2, hK⟩
  obtain ⟨b2, R2, f1, f2, f3, f4, f5, f6, f7, f8, f9, f10, f11⟩ := (m3.loops _ _ _ _ hrow2).at_
  have hb2 : b2 = b1 := by have := m2.map _ _ g1; rw [f1] at this; cases this; rfl
  subst hb2
  have fin : ∀ (b : Bool) (s' : LoopState), x2.code.isNone = b → s' = (if b then .ready else .done) → decide (x2 = .normal) = b → (if x2 = .normal then LoopState.ready else .done) = s' →
      ∃ v w', (Instr.endRound b2 x2.code).run P w2 = .ok v w' ∧ wpListIn (fc ro) 0 P ops (AWPost base w0 nt σ a.defers fun x e H => x = .normal ∧ Q e H) rest (a.put o.dst v) w' := by
    intro b s' hb hs' hx hst
    refine ⟨_, _, run_endRound x2.code f3, ?_⟩
    rw [hb]
    have hS3 := m3.setLoop hrow2 f1 f3 s' x2
    rw [hs'] at hS3
    rw [hx, hst, hs'] at hK
    exact wpListIn_mono (fun _ _ _ h => h.after (k2.trans m2)) rest _ _ (hK ro base w0 σ2 _ _ (ho.mono (k2.trans m2)) hS3 ((hr.mono (k2.trans m2)).putDst hd (fun u hu => by cases hu; exact .bool _)))
  cases x2 with
  | normal => exact fin true .ready rfl rfl rfl rfl
  | exit i => exact fin false .done rfl rfl rfl rfl
  | goto i => exact fin false .done rfl rfl rfl rfl
  | ret => exact fin false .done rfl rfl rfl rfl
end
end Go.Proofs.Ytbimapbcpmeooaa.AX

/- A plain reading of runs: statements whose order is open. -/
namespace Go.Proofs.Ytbimapbcpmeooaa.AX
open Go Go.RowKit

/-! ### Which operations come before which -/
def mkMask (acc : List Nat) (es : List Edge) (s : Nat) : Nat :=
  match es with
  | [] => s
  | e :: es => mkMask acc es (if Region.binds .any e then s ||| 2 ^ e.on ||| (acc[e.on]?).getD 0 else s)

def masks : List Oper → List Nat → List Nat
  | [], acc => acc
  | o :: rest, acc => masks rest (acc ++ [mkMask acc o.after.toList 0])

theorem mkMask_bit {acc : List Nat} {j : Nat} : ∀ {es : List Edge} {s : Nat}, (mkMask acc es s).testBit j = true → s.testBit j = true ∨ ∃ e ∈ es, Region.binds .any e = true ∧ (j = e.on ∨ ∃ m, acc[e.on]? = some m ∧ m.testBit j = true)
  | [], s, h => .inl h
  | e :: es, s, h => by
    simp only [mkMask] at h
    rcases mkMask_bit (es := es) h with h1 | ⟨e', he, hb, h2⟩
    · split at h1
      · rename_i hb
        rw [Nat.testBit_or, Nat.testBit_or, Bool.or_eq_true, Bool.or_eq_true] at h1
        rcases h1 with (h1 | h1) | h1
        · exact .inl h1
        · rw [Nat.testBit_two_pow] at h1
          exact .inr ⟨e, by simp, hb, .inl (by simp at h1; exact h1.symm)⟩
        · cases ha : acc[e.on]? with
          | none => rw [ha] at h1; simp at h1
          | some m => rw [ha] at h1; exact .inr ⟨e, by simp, hb, .inr ⟨m, ha, h1⟩⟩
      · exact .inl h1
    · exact .inr ⟨e', by simp [he], hb, h2⟩

/-- A set of operations that holds with each what comes before it. -/
def Closed (ops : Array Oper) (D : Nat → Bool) : Prop := ∀ i o, ops[i]? = some o → D i = true → ∀ e ∈ o.after, Region.binds .any e = true → D e.on = true

theorem masks_closed {ops : Array Oper} {D : Nat → Bool} (hD : Closed ops D) : ∀ (rest : List Oper) (acc : List Nat), (∀ j, rest[j]? = ops[acc.length + j]?) →
    (∀ (i m j : Nat), acc[i]? = some m → m.testBit j = true → D i = true → D j = true) → ∀ (i m j : Nat), (masks rest acc)[i]? = some m → m.testBit j = true → D i = true → D j = true
  | [], acc, _, h => h
  | o :: rest, acc, ho, h => by
    refine masks_closed hD rest _ (fun j => ?_) (fun i m j hi hj hd => ?_)
    · have := ho (j + 1)
      simp only [List.getElem?_cons_succ] at this
      rw [this]; simp [Nat.add_assoc, Nat.add_comm 1 j]
    · rcases Nat.lt_or_ge i acc.length with hlt | hge
      · rw [List.getElem?_append_left hlt] at hi
        exact h i m j hi hj hd
      · rw [List.getElem?_append_right hge] at hi
        have hi0 : i = acc.length := by
          rcases Nat.lt_or_ge (i - acc.length) 1 with h1 | h1
          · omega
          · rw [List.getElem?_eq_none (by simpa using h1)] at hi; cases hi
        subst hi0
        simp only [Nat.sub_self, List.getElem?_cons_zero, Option.some.injEq] at hi
        subst hi
        have hop : ops[acc.length]? = some o := by have := ho 0; simpa using this.symm
        rcases mkMask_bit hj with h1 | ⟨e, he, hb, h2⟩
        · simp at h1
        · have hde := hD _ _ hop hd e (by simpa using he) hb
          rcases h2 with h2 | ⟨m', h2, h3⟩
          · subst h2; exact hde
          · exact h e.on m' j h2 h3 hde

def anc (ms : List Nat) (i j : Nat) : Bool := ((ms[i]?).getD 0).testBit j

theorem anc_closed {ops : Array Oper} {D : Nat → Bool} (hD : Closed ops D) {i j : Nat} (h : anc (masks ops.toList []) i j = true) (hi : D i = true) : D j = true := by
  unfold anc at h
  cases hm : (masks ops.toList [])[i]? with
  | none => rw [hm] at h; simp at h
  | some m =>
    rw [hm] at h
    exact masks_closed hD ops.toList [] (by simp) (by simp) i m j hm h hi

/-! ### The kinds of operations -/
def isW : Op → Bool
  | .store .. | .alloc _ | .box .. | .buildSlice .. | .makeSlice .. | .makeMap .. | .mapUpdate .. | .range .. | .next .. => true
  | .call { callee := .builtin .len, .. } | .call { callee := .builtin .min, .. } | .call { callee := .builtin .max, .. } => false
  | .call _ => true
  | _ => false

def isR : Op → Bool
  | .load .. | .slice .. | .lookup .. => true
  | _ => false

def opNames (ops : Array Oper) (o : Oper) : List Nat :=
  o.dst.toList ++ (o.op.operands.toList.filterMap fun | .tmp t => some t | _ => none) ++ (match o.guard with | some (j, _) => (((ops[j]?).bind (·.dst)).toList) | none => [])

/-- Each edge goes back; two operations of which one writes what the other names, and two that write memory, are in order. -/
def ordOK (ops : Array Oper) : Bool :=
  let ms := masks ops.toList []
  ops.toList.zipIdx.all fun (o, i) =>
    (o.after.toList.all fun e => !Region.binds .any e || decide (e.on < i)) &&
    ops.toList.zipIdx.all fun (p, j) => i == j || anc ms i j || anc ms j i ||
      (!(isW o.op && isW p.op) && (match p.dst with | some t => !(opNames ops o).contains t | none => true) && !(match o.op, p.op with | .select .., _ => true | _, _ => false))

/-- A guard's value; what was left out is known to be so. -/
def guardT (b : AV) (want : Bool) : Option Bool := match b with | .bool b => some (b == want) | .tuple [] => some false | _ => none
def wantedT (ops : Array Oper) (e : Env) (o : Oper) : Option Bool :=
  match o.guard with
  | none => some true
  | some (j, want) =>
    match (ops[j]?).bind (·.dst) with
    | none => none
    | some t => guardT (eget e t) want
def putSkip (e : Env) : Option Tmp → Env
  | none => e
  | some t => eset e t (.tuple [])

section
variable {P : Program} {nt : Nat} {ops : Array Oper}
theorem wantedT_true {e : Env} {o : Oper} (h : wantedT ops e o = some true) : wantedA ops e o = some true := by
  obtain ⟨d, op, t, p, af, g⟩ := o
  cases g with
  | none => rfl
  | some g =>
    obtain ⟨j, want⟩ := g
    unfold wantedT at h
    unfold wantedA
    simp only [] at h ⊢
    cases hd : (ops[j]?).bind (·.dst) with
    | none => rw [hd] at h; cases h
    | some t =>
      rw [hd] at h
      simp only [] at h ⊢
      cases hv : eget e t with
      | bool b => rw [hv] at h; exact h
      | tuple l => rw [hv] at h; cases l <;> simp [guardT] at h
      | _ => rw [hv] at h; simp [guardT] at h
theorem wantedA_T {e : Env} {o : Oper} (h : wantedA ops e o = some true) : wantedT ops e o = some true := by
  obtain ⟨d, op, t, p, af, g⟩ := o
  cases g with
  | none => rfl
  | some g =>
    obtain ⟨j, want⟩ := g
    unfold wantedA at h
    unfold wantedT
    simp only [] at h ⊢
    cases hd : (ops[j]?).bind (·.dst) with
    | none => rw [hd] at h; cases h
    | some t =>
      rw [hd] at h
      simp only [] at h ⊢
      cases hv : eget e t with
      | bool b => rw [hv] at h; exact h
      | _ => rw [hv] at h; cases h
theorem wantedT_false {e : Env} {σ : Inj} {a : Act} (hr : ERel σ nt e a) {o : Oper} (h : wantedT ops e o = some false) : Region.wanted o (yielded ops a.tmps) = false := by
  unfold wantedT at h
  split at h
  · cases h
  · rename_i j want hg
    split at h
    · cases h
    · rename_i t ht
      cases hv : eget e t with
      | bool b =>
        refine wantedA_sound hr ?_
        unfold wantedA
        rw [hg]
        simp only [ht, hv]
        rw [hv] at h; exact h
      | tuple l =>
        cases l with
        | cons x l => rw [hv] at h; simp [guardT] at h
        | nil =>
          have h2 := hr.2.2 t
          rw [hv] at h2
          have hne : ∀ b, a.tmps[t]? ≠ some (.bool b) := by
            intro b hb
            rw [Array.getD_eq_getD_getElem?, hb] at h2
            simp at h2
            cases h2
          unfold Region.wanted
          rw [hg]
          simp only [yielded, ht]
          cases hx : a.tmps[t]? with
          | none => simp [hx]
          | some u =>
            cases u with
            | bool b => exact absurd hx (hne b)
            | _ => simp [hx]
      | _ => rw [hv] at h; simp [guardT] at h
theorem ERel.putSkip {e : Env} {σ : Inj} {a : Act} (h : ERel σ nt e a) (d : Option Tmp) : ERel σ nt (AX.putSkip e d) (a.put d undef) := by
  cases d with
  | none => exact h
  | some t =>
    refine ⟨by simp [Act.put, h.1], h.2.1, fun s => ?_⟩
    show RelV σ (eget (eset e t (.tuple [])) s) _
    rw [eget_eset]
    by_cases hs : t = s
    · subst hs
      simp only [if_true, Act.put, Array.getD_eq_getD_getElem?]
      by_cases hlt : t < a.tmps.size
      · simp [hlt]; exact .tuple .nil
      · simp [hlt]; exact .tuple .nil
    · have := h.2.2 s
      simp only [hs, if_false, Act.put]
      simpa [Array.getD_eq_getD_getElem?, Array.getElem?_setIfInBounds_ne hs] using this
theorem AO_skipT {e : Env} {H : AH} {Q : Env → AH → Prop} {o : Oper} {rest : List Oper} (hw : wantedT ops e o = some false) (hk : AO P nt ops rest (putSkip e o.dst) H Q) : AO P nt ops (o :: rest) e H Q := fun ro base w0 σ w a ho S hr => by
  unfold wpListIn
  rw [if_neg (by rw [wantedT_false hr hw]; simp)]
  exact ⟨fun _ _ => trivial, wpListIn_mono (fun _ _ _ h => h.after (.refl σ)) rest _ _ (hk ro base w0 σ w _ ho S (hr.putSkip o.dst))⟩

theorem putDst_skip (e : Env) (d : Option Tmp) : putDst e d (some (.tuple [])) = putSkip e d := by cases d <;> rfl
end
/-- One operation as it went: the environment, the rows, what it gave, the rows behind it. -/
structure Rec where
  e : Env
  H : AH
  v : Option AV
  H' : AH

inductive Trace (P : Program) (nt : Nat) (ops : Array Oper) : List Oper → Env → AH → List Rec → Env → AH → Prop
  | nil (e : Env) (H : AH) : Trace P nt ops [] e H [] e H
  | op {o : Oper} {rest : List Oper} {e e' : Env} {H H1 H' : AH} {v : Option AV} {tr : List Rec} : wantedA ops e o = some true → execN P (oval e) H o.op = some (v, H1) → dstOk nt o.dst = true →
      Trace P nt ops rest (putDst e o.dst v) H1 tr e' H' → Trace P nt ops (o :: rest) e H (⟨e, H, v, H1⟩ :: tr) e' H'
  | skip {o : Oper} {rest : List Oper} {e e' : Env} {H H' : AH} {tr : List Rec} : wantedA ops e o = some false →
      Trace P nt ops rest (putDst e o.dst none) H tr e' H' → Trace P nt ops (o :: rest) e H (⟨e, H, none, H⟩ :: tr) e' H'
  | skipT {o : Oper} {rest : List Oper} {e e' : Env} {H H' : AH} {tr : List Rec} : wantedT ops e o = some false →
      Trace P nt ops rest (putDst e o.dst (some (.tuple []))) H tr e' H' → Trace P nt ops (o :: rest) e H (⟨e, H, some (.tuple []), H⟩ :: tr) e' H'
  | call {o : Oper} {rest : List Oper} {e e' : Env} {H H1 H' : AH} {v : AV} {f : FuncId} {args : List AV} {tr : List Rec} : wantedA ops e o = some true → opCall P (oval e) o.op = some (f, args) → dstOk nt o.dst = true →
      AC P f args H (fun v' H2 => v' = v ∧ H2 = H1) → Trace P nt ops rest (putDst e o.dst (some v)) H1 tr e' H' → Trace P nt ops (o :: rest) e H (⟨e, H, some v, H1⟩ :: tr) e' H'

/-- What one operation did. -/
def Did (P : Program) (nt : Nat) (ops : Array Oper) (o : Oper) (r : Rec) : Prop :=
  (wantedA ops r.e o = some false ∧ r.v = none ∧ r.H' = r.H) ∨
  (dstOk nt o.dst = true ∧ wantedA ops r.e o = some true ∧ (execN P (oval r.e) r.H o.op = some (r.v, r.H') ∨
    ∃ f args v, opCall P (oval r.e) o.op = some (f, args) ∧ r.v = some v ∧ AC P f args r.H (fun v' H2 => v' = v ∧ H2 = r.H'))) ∨
  (wantedT ops r.e o = some false ∧ r.v = some (.tuple []) ∧ r.H' = r.H)

def foldD : List Oper → List Rec → (Nat → Bool) → Nat → Env → Env
  | o :: l, r :: tr, D, k, e => foldD l tr D (k + 1) (if D k then putDst e o.dst r.v else e)
  | _, _, _, _, e => e

section
variable {P : Program} {nt : Nat} {ops : Array Oper}

theorem eget_putDst (e : Env) (d : Option Tmp) (v : Option AV) (t : Nat) : eget (putDst e d v) t = if d = some t then v.getD .undef else eget e t := by
  cases d with
  | none => simp [putDst]
  | some s =>
    cases v with
    | none => simp [putDst, eget_edel]
    | some v => simp [putDst, eget_eset]

theorem foldD_agree : ∀ (l : List Oper) (tr : List Rec) (D D' : Nat → Bool) (k : Nat) (e e' : Env) (t : Nat), (∀ j o, l[j]? = some o → o.dst = some t → D (k + j) = D' (k + j)) → eget e t = eget e' t →
    eget (foldD l tr D k e) t = eget (foldD l tr D' k e') t
  | [], _, _, _, _, _, _, _, _, h => by simpa [foldD] using h
  | _ :: _, [], _, _, _, _, _, _, _, h => by simpa [foldD] using h
  | o :: l, r :: tr, D, D', k, e, e', t, hD, h => by
    simp only [foldD]
    refine foldD_agree l tr D D' (k + 1) _ _ t (fun j o' hj ho => ?_) ?_
    · have := hD (j + 1) o' (by simpa using hj) ho
      rwa [show k + 1 + j = k + (j + 1) by omega]
    · by_cases ht : o.dst = some t
      · have := hD 0 o (by simp) ht
        simp only [Nat.add_zero] at this
        rw [this]
        split
        · rw [eget_putDst, eget_putDst, if_pos ht, if_pos ht]
        · exact h
      · split <;> split <;> simp [eget_putDst, ht, h]

theorem foldD_none : ∀ (l : List Oper) (tr : List Rec) (D : Nat → Bool) (k : Nat) (e : Env), (∀ j, D (k + j) = false) → foldD l tr D k e = e
  | [], _, _, _, _, _ => by simp [foldD]
  | _ :: _, [], _, _, _, _ => by simp [foldD]
  | o :: l, r :: tr, D, k, e, h => by
    have h0 := h 0
    simp only [Nat.add_zero] at h0
    simp only [foldD, h0]
    exact foldD_none l tr D (k + 1) e (fun j => by have := h (j + 1); rwa [show k + 1 + j = k + (j + 1) by omega])

theorem Trace.length {l : List Oper} {e e' : Env} {H H' : AH} {tr : List Rec} (h : Trace P nt ops l e H tr e' H') : tr.length = l.length := by
  induction h <;> simp_all

theorem Trace.did {l : List Oper} {e e' : Env} {H H' : AH} {tr : List Rec} (h : Trace P nt ops l e H tr e' H') : ∀ (i : Nat) (o : Oper) (r : Rec), l[i]? = some o → tr[i]? = some r → Did P nt ops o r := by
  induction h with
  | nil => intro i o r h; simp at h
  | op h1 h2 h3 _ ih => intro i o r ho hr; cases i with
    | zero => simp at ho hr; subst ho; subst hr; exact .inr (.inl ⟨h3, h1, .inl h2⟩)
    | succ i => exact ih i o r (by simpa using ho) (by simpa using hr)
  | skip h1 _ ih => intro i o r ho hr; cases i with
    | zero => simp at ho hr; subst ho; subst hr; exact .inl ⟨h1, rfl, rfl⟩
    | succ i => exact ih i o r (by simpa using ho) (by simpa using hr)
  | skipT h1 _ ih => intro i o r ho hr; cases i with
    | zero => simp at ho hr; subst ho; subst hr; exact .inr (.inr ⟨h1, rfl, rfl⟩)
    | succ i => exact ih i o r (by simpa using ho) (by simpa using hr)
  | call h1 h2 h3 h4 _ ih => intro i o r ho hr; cases i with
    | zero => simp at ho hr; subst ho; subst hr; exact .inr (.inl ⟨h3, h1, .inr ⟨_, _, _, h2, rfl, h4⟩⟩)
    | succ i => exact ih i o r (by simpa using ho) (by simpa using hr)

/-- The environments and the rows on the way. -/
theorem Trace.envs {l : List Oper} {e e' : Env} {H H' : AH} {tr : List Rec} (h : Trace P nt ops l e H tr e' H') : ∀ (k i : Nat) (r : Rec), tr[i]? = some r → r.e = foldD l tr (fun j => decide (j < k + i)) k e := by
  induction h with
  | nil => intro k i r h; simp at h
  | op h1 h2 h3 _ ih => intro k i r hr; cases i with
    | zero => simp at hr; subst hr; rw [foldD_none _ _ _ _ _ (by simp)]
    | succ i =>
      have := ih (k + 1) i r (by simpa using hr)
      simp only [foldD]
      rw [this, show k + 1 + i = k + (i + 1) by omega]
      simp
  | skip h1 _ ih => intro k i r hr; cases i with
    | zero => simp at hr; subst hr; rw [foldD_none _ _ _ _ _ (by simp)]
    | succ i =>
      have := ih (k + 1) i r (by simpa using hr)
      simp only [foldD]
      rw [this, show k + 1 + i = k + (i + 1) by omega]
      simp
  | skipT h1 _ ih => intro k i r hr; cases i with
    | zero => simp at hr; subst hr; rw [foldD_none _ _ _ _ _ (by simp)]
    | succ i =>
      have := ih (k + 1) i r (by simpa using hr)
      simp only [foldD]
      rw [this, show k + 1 + i = k + (i + 1) by omega]
      simp
  | call h1 h2 h3 h4 _ ih => intro k i r hr; cases i with
    | zero => simp at hr; subst hr; rw [foldD_none _ _ _ _ _ (by simp)]
    | succ i =>
      have := ih (k + 1) i r (by simpa using hr)
      simp only [foldD]
      rw [this, show k + 1 + i = k + (i + 1) by omega]
      simp

theorem Trace.last {l : List Oper} {e e' : Env} {H H' : AH} {tr : List Rec} (h : Trace P nt ops l e H tr e' H') : ∀ (k : Nat) (D : Nat → Bool), (∀ j, D j = true) → e' = foldD l tr D k e := by
  induction h with
  | nil => intro k D _; simp [foldD]
  | op h1 h2 h3 _ ih => intro k D hD; simp only [foldD, hD, if_true]; exact ih (k + 1) D hD
  | skip h1 _ ih => intro k D hD; simp only [foldD, hD, if_true]; exact ih (k + 1) D hD
  | skipT h1 _ ih => intro k D hD; simp only [foldD, hD, if_true]; exact ih (k + 1) D hD
  | call h1 h2 h3 h4 _ ih => intro k D hD; simp only [foldD, hD, if_true]; exact ih (k + 1) D hD

/-- The rows ahead of operation m. -/
def rowsAt (tr : List Rec) (H' : AH) (m : Nat) : AH := match tr[m]? with | some r => r.H | none => H'

theorem Trace.next {l : List Oper} {e e' : Env} {H H' : AH} {tr : List Rec} (h : Trace P nt ops l e H tr e' H') : ∀ (i : Nat) (r : Rec), tr[i]? = some r → rowsAt tr H' (i + 1) = r.H' := by
  have first : ∀ {l : List Oper} {e e' : Env} {H H' : AH} {tr : List Rec}, Trace P nt ops l e H tr e' H' → rowsAt tr H' 0 = H := by
    intro l e e' H H' tr h
    cases h <;> simp [rowsAt]
  induction h with
  | nil => intro i r h; simp at h
  | op h1 h2 h3 ht ih => intro i r hr; cases i with
    | zero => simp at hr; subst hr; have := first ht; simpa [rowsAt] using this
    | succ i => have := ih i r (by simpa using hr); simpa [rowsAt] using this
  | skip h1 ht ih => intro i r hr; cases i with
    | zero => simp at hr; subst hr; have := first ht; simpa [rowsAt] using this
    | succ i => have := ih i r (by simpa using hr); simpa [rowsAt] using this
  | skipT h1 ht ih => intro i r hr; cases i with
    | zero => simp at hr; subst hr; have := first ht; simpa [rowsAt] using this
    | succ i => have := ih i r (by simpa using hr); simpa [rowsAt] using this
  | call h1 h2 h3 h4 ht ih => intro i r hr; cases i with
    | zero => simp at hr; subst hr; have := first ht; simpa [rowsAt] using this
    | succ i => have := ih i r (by simpa using hr); simpa [rowsAt] using this

theorem Trace.first {l : List Oper} {e e' : Env} {H H' : AH} {tr : List Rec} (h : Trace P nt ops l e H tr e' H') : rowsAt tr H' 0 = H := by
  cases h <;> simp [rowsAt]

/-- What is read is the same ahead of and behind each operation that writes memory and stands in no order to the reading. -/
def readsOK (P : Program) (ops : Array Oper) (tr : List Rec) : Prop :=
  ∀ (i j : Nat) (o p : Oper) (r s : Rec), ops[i]? = some o → ops[j]? = some p → tr[i]? = some r → tr[j]? = some s → isR o.op = true → isW p.op = true → wantedA ops r.e o = some true →
    anc (masks ops.toList []) i j = false → anc (masks ops.toList []) j i = false → execN P (oval r.e) s.H o.op = some (r.v, s.H) ∧ execN P (oval r.e) s.H' o.op = some (r.v, s.H')

theorem execN_congr {ρ ρ' : Operand → AV} {H : AH} {o : Op} (h : ∀ x ∈ o.operands, ρ x = ρ' x) : execN P ρ H o = execN P ρ' H o := by
  have hp : ∀ (l : List (Nat × Operand)), (∀ y ∈ l, ρ y.2 = ρ' y.2) → (l.map fun x => (x.1, ρ x.2)) = l.map fun x => (x.1, ρ' x.2) := fun l hl => List.map_congr_left fun y hy => by rw [hl y hy]
  cases o
  case call c =>
    obtain ⟨callee, as, ts⟩ := c
    cases callee
    case builtin b =>
      have hm : as.toList.map ρ = as.toList.map ρ' := List.map_congr_left fun y hy => h y (by simp [Op.operands, Call.operands]; simpa using hy)
      have h0 : ∀ (i : Nat) y, as[i]? = some y → ρ y = ρ' y := fun i y hy => h y (by simp [Op.operands, Call.operands]; exact Array.mem_of_getElem? hy)
      cases b <;> simp only [execN, aPure, aWrite, hm]
      · split
        · rename_i x1 x2 x3 x4 e1 e2 e3 e4
          rw [h0 _ _ e3, h0 _ _ e4]
        · rfl
      · split
        · rename_i x1 x2 e1 e2
          rw [h0 _ _ e2]
        · rfl
      -- cap as well
      · split
        · rename_i x1 x2 e1 e2
          rw [h0 _ _ e2]
        · rfl
      · split
        · rename_i x1 x2 x3 e1 e2 e3
          rw [h0 _ _ e2, h0 _ _ e3]
        · rfl
      · split
        · rename_i x1 x2 e1 e2
          rw [h0 _ _ e2]
        · rfl
    all_goals rfl
  case build t ps =>
    simp only [execN, aPure]
    rw [hp ps.toList fun y hy => h y.2 (by simp [Op.operands]; exact ⟨y.1, by simpa using hy⟩)]
  case buildSlice t n ps =>
    simp only [execN, aWrite]
    rw [hp ps.toList fun y hy => h y.2 (by simp [Op.operands]; exact ⟨y.1, by simpa using hy⟩)]
  case makeFunc fn a b =>
    simp only [execN, aPure]
    rw [show a.toList.map ρ = a.toList.map ρ' from List.map_congr_left fun y hy => h y (by simp [Op.operands]; left; simpa using hy),
      show b.toList.map ρ = b.toList.map ρ' from List.map_congr_left fun y hy => h y (by simp [Op.operands]; right; simpa using hy)]
  case slice t x lo hi mx =>
    have hx := h x (by simp [Op.operands])
    have h1 : lo.map ρ = lo.map ρ' := by cases lo <;> simp; exact h _ (by simp [Op.operands])
    have h2 : hi.map ρ = hi.map ρ' := by cases hi <;> simp; exact h _ (by simp [Op.operands])
    have h3 : mx.map ρ = mx.map ρ' := by cases mx <;> simp; exact h _ (by simp [Op.operands])
    simp only [execN, aPure, aRead, hx, h1, h2, h3]
  case makeMap t r =>
    have h1 : r.map ρ = r.map ρ' := by cases r <;> simp; exact h _ (by simp [Op.operands])
    simp only [execN, h1]
  all_goals
    simp only [execN, aPure, aRead, aWrite]
    try (simp only [Op.operands, Array.mem_def, List.mem_cons, List.not_mem_nil, or_false, forall_eq_or_imp, forall_eq] at h)
    try simp only [h]

theorem opCall_congr {ρ ρ' : Operand → AV} {o : Op} (h : ∀ x ∈ o.operands, ρ x = ρ' x) : opCall P ρ o = opCall P ρ' o := by
  cases o
  case call c =>
    obtain ⟨callee, as, ts⟩ := c
    cases callee
    case value g =>
      have hm : as.toList.map ρ = as.toList.map ρ' := List.map_congr_left fun y hy => h y (by simp [Op.operands, Call.operands]; right; simpa using hy)
      simp only [opCall, hm, h g (by simp [Op.operands, Call.operands])]
    case invoke r n =>
      have hm : as.toList.map ρ = as.toList.map ρ' := List.map_congr_left fun y hy => h y (by simp [Op.operands, Call.operands]; right; simpa using hy)
      simp only [opCall, hm, h r (by simp [Op.operands, Call.operands])]
    all_goals rfl
  all_goals rfl

theorem execN_same {ρ : Operand → AV} {H H1 : AH} {o : Op} {v : Option AV} (hw : isW o = false) (h : execN P ρ H o = some (v, H1)) : H1 = H := by
  unfold execN at h
  split at h
  case h_9 => obtain ⟨u, _, h1⟩ := Option.map_eq_some_iff.1 h; cases h1; rfl
  case h_10 =>
    split at h
    · cases h; rfl
    · obtain ⟨u, _, h1⟩ := Option.map_eq_some_iff.1 h; cases h1; rfl
  case h_11 => obtain ⟨u, _, h1⟩ := Option.map_eq_some_iff.1 h; cases h1; rfl
  case h_16 => obtain ⟨u, _, h1⟩ := Option.map_eq_some_iff.1 h; cases h1; rfl
  all_goals simp [isW] at hw

theorem execN_pure {ρ : Operand → AV} {H H1 : AH} {o : Op} {v : Option AV} (hw : isW o = false) (hr : isR o = false) (h : execN P ρ H o = some (v, H1)) (H2 : AH) : execN P ρ H2 o = some (v, H2) := by
  unfold execN at h ⊢
  split at h
  case h_9 => simp [isR] at hr
  case h_10 => simp [isR] at hr
  case h_11 => simp [isR] at hr
  case h_16 => obtain ⟨u, h2, h1⟩ := Option.map_eq_some_iff.1 h; cases h1; simp [h2]
  all_goals simp [isW] at hw

theorem opCall_isW {ρ : Operand → AV} {o : Op} {f : FuncId} {args : List AV} (h : opCall P ρ o = some (f, args)) : isW o = true := by
  unfold opCall at h
  split at h <;> first | (cases h; done) | rfl

theorem Did.same {o : Oper} {r : Rec} (h : Did P nt ops o r) (hw : isW o.op = false) : r.H' = r.H := by
  rcases h with ⟨_, _, h⟩ | ⟨_, _, h | ⟨f, args, v, h, _⟩⟩ | ⟨_, _, h⟩
  · exact h
  · exact execN_same hw h
  · rw [opCall_isW h] at hw; cases hw
  · exact h

theorem oval_agree {e e' : Env} {o : Oper} (h : ∀ t ∈ opNames ops o, eget e t = eget e' t) : ∀ x ∈ o.op.operands, oval e x = oval e' x := by
  intro x hx
  cases x with
  | tmp t => exact h t (by unfold opNames; simp; right; left; exact ⟨.tmp t, hx, rfl⟩)
  | _ => rfl

theorem wantedA_agree {e e' : Env} {o : Oper} (h : ∀ t ∈ opNames ops o, eget e t = eget e' t) : wantedA ops e o = wantedA ops e' o := by
  unfold wantedA
  cases hg : o.guard with
  | none => rfl
  | some g =>
    obtain ⟨j, want⟩ := g
    simp only []
    cases hd : (ops[j]?).bind (·.dst) with
    | none => rfl
    | some t => simp only []; rw [h t (by unfold opNames; simp [hg, hd])]
theorem wantedT_agree {e e' : Env} {o : Oper} (h : ∀ t ∈ opNames ops o, eget e t = eget e' t) : wantedT ops e o = wantedT ops e' o := by
  unfold wantedT
  cases hg : o.guard with
  | none => rfl
  | some g =>
    obtain ⟨j, want⟩ := g
    simp only []
    cases hd : (ops[j]?).bind (·.dst) with
    | none => rfl
    | some t => simp only []; rw [h t (by unfold opNames; simp [hg, hd])]
end
end Go.Proofs.Ytbimapbcpmeooaa.AX

/- A plain reading of runs: a statement whose order is open may be read in the order of its text. -/
namespace Go.Proofs.Ytbimapbcpmeooaa.AX
open Go Go.RowKit
section
variable {P : Program} {nt : Nat} {ops : Array Oper}

theorem foldD_succ : ∀ (l : List Oper) (tr : List Rec) (k i : Nat) (e : Env) (o : Oper) (r : Rec), l[i]? = some o → tr[i]? = some r →
    foldD l tr (fun j => decide (j < k + i + 1)) k e = putDst (foldD l tr (fun j => decide (j < k + i)) k e) o.dst r.v
  | [], _, _, _, _, _, _, h, _ => by simp at h
  | _ :: _, [], _, _, _, _, _, _, h => by simp at h
  | o' :: l, r' :: tr, k, 0, e, o, r, h1, h2 => by
    simp at h1 h2
    subst h1; subst h2
    simp only [foldD]
    rw [foldD_none _ _ _ _ _ (by intro j; simp <;> omega), foldD_none _ _ _ _ _ (by intro j; simp <;> omega)]
    simp
  | o' :: l, r' :: tr, k, i + 1, e, o, r, h1, h2 => by
    simp only [foldD]
    have := foldD_succ l tr (k + 1) i (putDst e o'.dst r'.v) o r (by simpa using h1) (by simpa using h2)
    rw [show k + (i + 1) + 1 = k + 1 + i + 1 by omega, show k + (i + 1) = k + 1 + i by omega]
    have c1 : k < k + 1 + i + 1 := by omega
    have c2 : k < k + 1 + i := by omega
    simpa [c1, c2] using this

/-- How many are not listed. -/
def unl (n : Nat) (listed : Array Bool) : Nat := ((List.range n).filter fun i => !listed.getD i false).length

theorem filter_lt {p q : Nat → Bool} {i : Nat} : ∀ {l : List Nat}, (∀ j, q j = true → p j = true) → i ∈ l → p i = true → q i = false → (l.filter q).length < (l.filter p).length
  | [], _, h, _, _ => by simp at h
  | x :: l, hq, h, hp, hqi => by
    have hle : ∀ l : List Nat, (l.filter q).length ≤ (l.filter p).length := by
      intro l
      induction l with
      | nil => simp
      | cons y l ih =>
        simp only [List.filter_cons]
        split
        · rename_i hy; rw [if_pos (hq y hy)]; simp; omega
        · split
          · simp; omega
          · exact ih
    simp only [List.filter_cons]
    rcases List.mem_cons.1 h with e | e
    · subst e
      rw [if_neg (by rw [hqi]; simp), if_pos hp]
      have := hle l
      simp; omega
    · have ih := filter_lt (l := l) hq e hp hqi
      split
      · rename_i hy; rw [if_pos (hq x hy)]; simp; omega
      · split
        · simp; omega
        · exact ih

theorem getD_set {listed : Array Bool} {i : Nat} (hi : i < listed.size) (j : Nat) : (listed.setIfInBounds i true).getD j false = (listed.getD j false || j == i) := by
  by_cases h : i = j
  · subst h; simp [hi]
  · rw [getD_set_ne false h]
    have : (j == i) = false := by simp; exact fun e => h e.symm
    rw [this]; simp

structure DrawOk (P : Program) (ops : Array Oper) (tr : List Rec) : Prop where
  ord : ordOK ops = true
  reads : readsOK P ops tr

theorem ord_edge (h : ordOK ops = true) {i : Nat} {o : Oper} (ho : ops[i]? = some o) {e : Edge} (he : e ∈ o.after) (hb : Region.binds .any e = true) : e.on < i := by
  unfold ordOK at h
  simp only [List.all_eq_true, Bool.and_eq_true] at h
  have := (h (o, i) (by rw [List.mk_mem_zipIdx_iff_getElem?]; simpa using ho)).1 e (by simpa using he)
  simpa [hb] using this

theorem ord_pair (h : ordOK ops = true) {i j : Nat} {o p : Oper} (ho : ops[i]? = some o) (hp : ops[j]? = some p) (hne : i ≠ j) :
    anc (masks ops.toList []) i j = true ∨ anc (masks ops.toList []) j i = true ∨ (¬ (isW o.op = true ∧ isW p.op = true) ∧ ∀ t, p.dst = some t → t ∉ opNames ops o) := by
  unfold ordOK at h
  simp only [List.all_eq_true, Bool.and_eq_true] at h
  have := (h (o, i) (by rw [List.mk_mem_zipIdx_iff_getElem?]; simpa using ho)).2 (p, j) (by rw [List.mk_mem_zipIdx_iff_getElem?]; simpa using hp)
  simp only [Bool.or_eq_true, beq_iff_eq, Bool.and_eq_true, Bool.not_eq_true'] at this
  rcases this with ((h1 | h1) | h1) | h1
  · exact absurd h1 hne
  · exact .inl h1
  · exact .inr (.inl h1)
  · refine .inr (.inr ⟨?_, ?_⟩)
    · rintro ⟨a, b⟩
      have := h1.1.1
      rw [a, b] at this
      simp at this
    · intro t ht
      have := h1.1.2
      rw [ht] at this
      simpa using this

variable {e e' : Env} {H H' : AH} {tr : List Rec}

theorem rows_back (hT : Trace P nt ops ops.toList e H tr e' H') (i : Nat) : ∀ m, i ≤ m → m ≤ ops.size → rowsAt tr H' m = rowsAt tr H' i ∨
    ∃ j p s, i ≤ j ∧ j < m ∧ ops[j]? = some p ∧ tr[j]? = some s ∧ isW p.op = true ∧ rowsAt tr H' m = s.H' := by
  intro m
  induction m with
  | zero => intro h _; left; rw [show i = 0 by omega]
  | succ m ih =>
    intro h1 h2
    rcases Nat.lt_or_ge m i with h3 | h3
    · left; rw [show i = m + 1 by omega]
    · have hl : tr.length = ops.size := by rw [hT.length]; simp
      have hm : m < tr.length := by omega
      have hr : tr[m]? = some tr[m] := List.getElem?_eq_getElem hm
      have ho : ops[m]? = some ops[m] := Array.getElem?_eq_getElem (by omega)
      have hn := hT.next m _ hr
      by_cases hw : isW ops[m].op = true
      · exact .inr ⟨m, _, _, h3, by omega, ho, hr, hw, hn⟩
      · have hs := (hT.did m _ _ (by rw [Array.getElem?_toList]; exact ho) hr).same (by simpa using hw)
        have h0 : rowsAt tr H' m = tr[m].H := by simp [rowsAt, hr]
        rw [hn, hs, ← h0]
        rcases ih h3 (by omega) with h4 | ⟨j, p, s, g1, g2, g3⟩
        · exact .inl h4
        · exact .inr ⟨j, p, s, g1, by omega, g3⟩

theorem rows_fwd (hT : Trace P nt ops ops.toList e H tr e' H') : ∀ (d m i : Nat), i = m + d → i ≤ ops.size → rowsAt tr H' m = rowsAt tr H' i ∨
    ∃ j p s, m ≤ j ∧ j < i ∧ ops[j]? = some p ∧ tr[j]? = some s ∧ isW p.op = true ∧ rowsAt tr H' m = s.H := by
  intro d
  induction d with
  | zero => intro m i h _; left; rw [h]; rfl
  | succ d ih =>
    intro m i h1 h2
    have hl : tr.length = ops.size := by rw [hT.length]; simp
    have hm : m < tr.length := by omega
    have hr : tr[m]? = some tr[m] := List.getElem?_eq_getElem hm
    have ho : ops[m]? = some ops[m] := Array.getElem?_eq_getElem (by omega)
    have hn := hT.next m _ hr
    have h0 : rowsAt tr H' m = tr[m].H := by simp [rowsAt, hr]
    by_cases hw : isW ops[m].op = true
    · exact .inr ⟨m, _, _, Nat.le_refl _, by omega, ho, hr, hw, h0⟩
    · have hs := (hT.did m _ _ (by rw [Array.getElem?_toList]; exact ho) hr).same (by simpa using hw)
      rw [h0, ← hs, ← hn]
      rcases ih (m + 1) i (by omega) h2 with h4 | ⟨j, p, s, g1, g2, g3⟩
      · exact .inl h4
      · exact .inr ⟨j, p, s, by omega, g2, g3⟩

/-- What holds on the way, whatever the order. -/
structure Inv (P : Program) (nt : Nat) (ops : Array Oper) (tr : List Rec) (H' : AH) (e : Env) (base : Nat) (w0 : World) (σ : Inj) (ds : List Deferred) (listed : Array Bool) (a : Act) (w : World) : Prop where
  defs : a.defers = ds
  size : listed.size = ops.size
  closed : Closed ops fun i => listed.getD i false
  st : ∃ m σ', m ≤ ops.size ∧ (∀ j p, ops[j]? = some p → isW p.op = true → (listed.getD j false = true ↔ j < m)) ∧ σ.le σ' ∧ Sim base w0 σ' (rowsAt tr H' m) w ∧
    ERel σ' nt (foldD ops.toList tr (fun i => listed.getD i false) 0 e) a

theorem draw_main (hT : Trace P nt ops ops.toList e H tr e' H') (hok : DrawOk P ops tr) {ro : Option Nat} {ds : List Deferred} {base : Nat} {w0 : World} {σ : Inj} : ∀ (fuel : Nat) (listed : Array Bool) (a : Act) (w : World), unl ops.size listed ≤ fuel →
    Inv P nt ops tr H' e base w0 σ ds listed a w → wpAnyIn (fc ro) 0 P .any ops (AWPost base w0 nt σ ds fun x e2 H2 => x = .normal ∧ e2 = e' ∧ H2 = H') fuel listed a w := by
  have hl : tr.length = ops.size := by rw [hT.length]; simp
  -- at the end
  have hend : ∀ (listed : Array Bool) (a : Act) (w : World), Inv P nt ops tr H' e base w0 σ ds listed a w → (∀ i, i < ops.size → listed.getD i false = true) →
      AWPost base w0 nt σ ds (fun x e2 H2 => x = .normal ∧ e2 = e' ∧ H2 = H') .normal a w := by
    intro listed a w I hall
    obtain ⟨m, σ', hm, hw, hle, hS, hE⟩ := I.st
    have hrows : rowsAt tr H' m = H' := by
      rcases rows_fwd hT (ops.size - m) m ops.size (by omega) (Nat.le_refl _) with h1 | ⟨j, p, s, g1, g2, g3, g4, g5, _⟩
      · rw [h1]; simp [rowsAt, ← hl]
      · have := (hw j p g3 g5).1 (hall j g2); omega
    have henv : ∀ t, eget (foldD ops.toList tr (fun i => listed.getD i false) 0 e) t = eget e' t := by
      intro t
      rw [hT.last 0 (fun _ => true) (fun _ => rfl)]
      refine foldD_agree _ _ _ _ _ _ _ _ (fun j o hj _ => ?_) rfl
      have hlt : j < ops.size := by
        rcases Nat.lt_or_ge j ops.size with h1 | h1
        · exact h1
        · rw [List.getElem?_eq_none (by simpa using h1)] at hj; cases hj
      simpa using hall j hlt
    rw [hrows] at hS
    exact ⟨.normal, σ', e', H', rfl, hle, hS, ⟨hE.1, hE.2.1, fun t => by rw [← henv t]; exact hE.2.2 t⟩, ⟨[], by simp [I.defs], by simp, by simp⟩, rfl, rfl, rfl⟩
  have hready : ∀ (listed : Array Bool), listed.size = ops.size → Region.ready .any ops listed = [] → ∀ i, i < ops.size → listed.getD i false = true := by
    intro listed hsz hr i
    induction i using Nat.strongRecOn with
    | _ i ih =>
      intro hi
      by_cases hd : listed.getD i false = true
      · exact hd
      · exfalso
        have ho : ops[i]? = some ops[i] := Array.getElem?_eq_getElem hi
        have : i ∈ Region.ready .any ops listed := by
          rw [mem_ready]
          refine ⟨?_, ops[i], ho, fun e he hb => ?_⟩
          · have h1 : i < listed.size := by omega
            simp [h1] at hd ⊢
            exact hd
          · have := ord_edge hok.ord ho he hb
            exact ih e.on this (by omega)
        rw [hr] at this; simp at this
  intro fuel
  induction fuel with
  | zero =>
    intro listed a w hu I
    have hall : ∀ i, i < ops.size → listed.getD i false = true := by
      intro i hi
      unfold unl at hu
      have hnil : ((List.range ops.size).filter fun i => !listed.getD i false) = [] := List.eq_nil_of_length_eq_zero (by omega)
      rw [List.filter_eq_nil_iff] at hnil
      have := hnil i (by simpa using hi)
      simpa using this
    refine ⟨?_, hend listed a w I hall⟩
    rw [List.eq_nil_iff_forall_not_mem]
    intro i hi
    rw [mem_ready] at hi
    obtain ⟨h1, o, ho, _⟩ := hi
    have hlt : i < ops.size := (Array.getElem?_eq_some_iff.1 ho).1
    have := hall i hlt
    have h2 : i < listed.size := by rw [I.size]; exact hlt
    simp [h2] at h1 this
    rw [this] at h1; cases h1
  | succ fuel ih =>
    intro listed a w hu I
    refine ⟨fun hr => hend listed a w I (hready listed I.size hr), fun i hi => ?_⟩
    rw [mem_ready] at hi
    obtain ⟨h1, o, ho, hafter⟩ := hi
    have hlt : i < ops.size := (Array.getElem?_eq_some_iff.1 ho).1
    have hltl : i < listed.size := by rw [I.size]; exact hlt
    have hDi : listed.getD i false = false := by simp [hltl] at h1 ⊢; exact h1
    have hr : tr[i]? = some tr[i] := List.getElem?_eq_getElem (by omega)
    generalize hrdef : tr[i] = r at hr
    have hdid := hT.did i o r (by simpa using ho) hr
    obtain ⟨m, σ1, hm, hw, hle, hS, hE⟩ := I.st
    -- the set with i
    have hset := getD_set (listed := listed) hltl
    have hclosed1 : Closed ops fun x => (listed.setIfInBounds i true).getD x false := by
      intro x p hp hx e' he' hb
      simp only [hset, Bool.or_eq_true] at hx ⊢
      rcases hx with hx | hx
      · exact .inl (I.closed x p hp hx e' he' hb)
      · simp at hx; subst hx
        rw [ho] at hp; cases hp
        exact .inl (hafter e' he' hb)
    have hle_closed : Closed ops fun x => decide (x ≤ i) := by
      intro x p hp hx e' he' hb
      have := ord_edge hok.ord hp he' hb
      simp at hx ⊢; omega
    have hle_closed' : ∀ j, Closed ops fun x => decide (x ≤ j) := by
      intro j x p hp hx e' he' hb
      have := ord_edge hok.ord hp he' hb
      simp at hx ⊢; omega
    have anc_lt : ∀ j k, anc (masks ops.toList []) j k = true → k ≤ j := fun j k h => by simpa using anc_closed (hle_closed' j) h (by simp)
    have anc_in : ∀ j, j ≠ i → anc (masks ops.toList []) i j = true → listed.getD j false = true := fun j hne h => by
      have := anc_closed hclosed1 h (by simp [hset])
      simp only [hset, Bool.or_eq_true, beq_iff_eq] at this
      exact this.resolve_right hne
    have anc_out : ∀ j, anc (masks ops.toList []) j i = true → listed.getD j false = false := fun j h => by
      cases hd : listed.getD j false with
      | false => rfl
      | true => have := anc_closed I.closed h hd; rw [hDi] at this; cases this
    -- operations in order to i
    have hcmp : ∀ j p, ops[j]? = some p → j ≠ i → (anc (masks ops.toList []) i j = true ∨ anc (masks ops.toList []) j i = true) → (listed.getD j false = true ↔ j < i) := by
      intro j p hp hne h
      rcases h with h | h
      · have a1 := anc_in j hne h
        have a2 := anc_lt i j h
        simp [a1]; omega
      · have a1 := anc_out j h
        have a2 := anc_lt j i h
        simp [a1]; omega
    have hagree : ∀ t ∈ opNames ops o, eget (foldD ops.toList tr (fun i => listed.getD i false) 0 e) t = eget r.e t := by
      intro t ht
      rw [hT.envs 0 i r hr]
      refine foldD_agree _ _ _ _ _ _ _ _ (fun j p hj hd => ?_) rfl
      have hp : ops[j]? = some p := by simpa using hj
      simp only [Nat.zero_add]
      by_cases hji : j = i
      · subst hji; simp; simpa using hDi
      · rcases ord_pair hok.ord ho hp (Ne.symm hji) with h | h | h
        · have := hcmp j p hp hji (.inl h); rw [Bool.eq_iff_iff]; simpa using this
        · have := hcmp j p hp hji (.inr h); rw [Bool.eq_iff_iff]; simpa using this
        · exact absurd ht (h.2 t hd)
    have hupd : ∀ t, eget (foldD ops.toList tr (fun x => (listed.setIfInBounds i true).getD x false) 0 e) t =
        eget (putDst (foldD ops.toList tr (fun i => listed.getD i false) 0 e) o.dst r.v) t := by
      intro t
      rw [eget_putDst]
      split
      · rename_i hd
        have h2 : eget (foldD ops.toList tr (fun x => (listed.setIfInBounds i true).getD x false) 0 e) t = eget (foldD ops.toList tr (fun j => decide (j < 0 + i + 1)) 0 e) t := by
          refine foldD_agree _ _ _ _ _ _ _ _ (fun j p hj hdj => ?_) rfl
          have hp : ops[j]? = some p := by simpa using hj
          simp only [Nat.zero_add, hset]
          by_cases hji : j = i
          · subst hji; simp
          · have hb : (j == i) = false := by simpa using hji
            rw [hb, Bool.or_false, Bool.eq_iff_iff]
            have hcm : listed.getD j false = true ↔ j < i := by
              rcases ord_pair hok.ord ho hp (Ne.symm hji) with h | h | h
              · exact hcmp j p hp hji (.inl h)
              · exact hcmp j p hp hji (.inr h)
              · exact absurd (by unfold opNames; simp [hd]) (h.2 t hdj)
            rw [hcm]; simp; omega
        rw [h2, foldD_succ ops.toList tr 0 i e o r (by simpa using ho) hr, eget_putDst, if_pos hd]
      · rename_i hd
        refine foldD_agree _ _ _ _ _ _ _ _ (fun j p hj hdj => ?_) rfl
        have hp : ops[j]? = some p := by simpa using hj
        simp only [Nat.zero_add, hset]
        by_cases hji : j = i
        · subst hji; rw [ho] at hp; cases hp; exact absurd hdj hd
        · have hb : (j == i) = false := by simpa using hji
          rw [hb, Bool.or_false]
    have hERel : ∀ {σ2 : Inj} {a2 : Act}, ERel σ2 nt (putDst (foldD ops.toList tr (fun i => listed.getD i false) 0 e) o.dst r.v) a2 → ERel σ2 nt (foldD ops.toList tr (fun x => (listed.setIfInBounds i true).getD x false) 0 e) a2 :=
      fun h => ⟨h.1, h.2.1, fun t => by rw [hupd]; exact h.2.2 t⟩
    have hu1 : unl ops.size (listed.setIfInBounds i true) ≤ fuel := by
      have : unl ops.size (listed.setIfInBounds i true) < unl ops.size listed := by
        unfold unl
        refine filter_lt (i := i) (fun j hj => ?_) (by simpa using hlt) (by simp [hDi]) (by simp [hset])
        simp only [hset, Bool.not_eq_true', Bool.or_eq_false_iff] at hj ⊢
        exact hj.1
      omega
    have hsz1 : (listed.setIfInBounds i true).size = ops.size := by simp [I.size]
    -- where the rows stand when i writes memory
    have hWrows : isW o.op = true → rowsAt tr H' m = r.H ∧ (∀ j p, ops[j]? = some p → isW p.op = true → ((listed.setIfInBounds i true).getD j false = true ↔ j < i + 1)) := by
      intro hwi
      have hWj : ∀ j p, ops[j]? = some p → isW p.op = true → j ≠ i → (listed.getD j false = true ↔ j < i) := by
        intro j p hp hwj hne
        rcases ord_pair hok.ord ho hp (Ne.symm hne) with h | h | h
        · exact hcmp j p hp hne (.inl h)
        · exact hcmp j p hp hne (.inr h)
        · exact absurd ⟨hwi, hwj⟩ h.1
      constructor
      · have h0 : rowsAt tr H' i = r.H := by simp [rowsAt, hr]
        rw [← h0]
        rcases Nat.lt_or_ge i m with h2 | h2
        · have := (hw i o ho hwi).2 h2; rw [hDi] at this; cases this
        · rcases rows_fwd hT (i - m) m i (by omega) (by omega) with h3 | ⟨j, p, s, g1, g2, g3, g4, g5, _⟩
          · exact h3
          · have a1 := (hWj j p g3 g5 (by omega)).2 g2
            have a2 := (hw j p g3 g5).1 a1
            omega
      · intro j p hp hwj
        simp only [hset]
        by_cases hji : j = i
        · subst hji; simp
        · have hb : (j == i) = false := by simpa using hji
          rw [hb, Bool.or_false, hWj j p hp hwj hji]; omega
    have hNrows : isW o.op = false → (∀ j p, ops[j]? = some p → isW p.op = true → ((listed.setIfInBounds i true).getD j false = true ↔ j < m)) := by
      intro hwi j p hp hwj
      simp only [hset]
      have hji : j ≠ i := by rintro rfl; rw [ho] at hp; cases hp; rw [hwi] at hwj; cases hwj
      have hb : (j == i) = false := by simpa using hji
      rw [hb, Bool.or_false]; exact hw j p hp hwj
    have hn1 : rowsAt tr H' (i + 1) = r.H' := hT.next i r hr
    -- the step
    have hdf : ∀ u, (a.put o.dst u).defers = ds := fun u => by rw [← I.defs]; cases o.dst <;> rfl
    unfold wpOpIn
    simp only [ho]
    have hwant := wantedA_agree (ops := ops) hagree
    rcases hdid with ⟨hw0, hv0, hH0⟩ | ⟨hdst, hw1, hrun⟩ | ⟨hw0, hv0, hH0⟩
    rotate_left 2
    · rw [if_neg (by rw [wantedT_false hE ((wantedT_agree (ops := ops) hagree).trans hw0)]; simp)]
      refine ⟨fun _ _ => trivial, ih _ _ _ hu1 ⟨hdf _, hsz1, hclosed1, ?_⟩⟩
      have hE2 : ERel σ1 nt (putDst (foldD ops.toList tr (fun i => listed.getD i false) 0 e) o.dst r.v) (a.put o.dst undef) := by
        rw [hv0, putDst_skip]
        exact hE.putSkip o.dst
      by_cases hwi : isW o.op = true
      · obtain ⟨g1, g2⟩ := hWrows hwi
        exact ⟨i + 1, σ1, by omega, g2, hle, by rw [hn1, hH0, ← g1]; exact hS, hERel hE2⟩
      · exact ⟨m, σ1, hm, hNrows (by simpa using hwi), hle, hS, hERel hE2⟩
    · rw [if_neg (by rw [wantedA_sound hE (hwant.trans hw0)]; simp)]
      refine ⟨fun _ _ => trivial, ih _ _ _ hu1 ⟨hdf _, hsz1, hclosed1, ?_⟩⟩
      have hE2 : ERel σ1 nt (putDst (foldD ops.toList tr (fun i => listed.getD i false) 0 e) o.dst r.v) (a.put o.dst undef) := by
        rw [hv0]
        cases hd : o.dst with
        | none => exact hE
        | some t => exact hE.del t undef
      by_cases hwi : isW o.op = true
      · obtain ⟨g1, g2⟩ := hWrows hwi
        exact ⟨i + 1, σ1, by omega, g2, hle, by rw [hn1, hH0, ← g1]; exact hS, hERel hE2⟩
      · exact ⟨m, σ1, hm, hNrows (by simpa using hwi), hle, hS, hERel hE2⟩
    · rw [if_pos (wantedA_sound hE (hwant.trans hw1))]
      have hoval := oval_agree (ops := ops) hagree
      rcases hrun with hx | ⟨f, args, v, hc, hv, hAC⟩
      · -- no call
        have hstep : ∃ m2, m2 ≤ ops.size ∧ (∀ j p, ops[j]? = some p → isW p.op = true → ((listed.setIfInBounds i true).getD j false = true ↔ j < m2)) ∧
            execN P (oval (foldD ops.toList tr (fun i => listed.getD i false) 0 e)) (rowsAt tr H' m) o.op = some (r.v, rowsAt tr H' m2) := by
          rw [execN_congr hoval]
          by_cases hwi : isW o.op = true
          · obtain ⟨g1, g2⟩ := hWrows hwi
            exact ⟨i + 1, by omega, g2, by rw [hn1, g1]; exact hx⟩
          · have hwi' : isW o.op = false := by simpa using hwi
            refine ⟨m, hm, hNrows hwi', ?_⟩
            have hsame := execN_same hwi' hx
            by_cases hri : isR o.op = true
            · have h0 : rowsAt tr H' i = r.H := by simp [rowsAt, hr]
              have hbase : rowsAt tr H' m = rowsAt tr H' i → execN P (oval r.e) (rowsAt tr H' m) o.op = some (r.v, rowsAt tr H' m) := by
                intro he; rw [he, h0]; rw [hsame] at hx; exact hx
              rcases Nat.lt_or_ge i m with h2 | h2
              · rcases rows_back hT i m (by omega) hm with h3 | ⟨j, p, s, g1, g2, g3, g4, g5, g6⟩
                · exact hbase h3
                · have hji : j ≠ i := by rintro rfl; rw [ho] at g3; cases g3; rw [hwi'] at g5; cases g5
                  have hDj := (hw j p g3 g5).2 g2
                  have n1 : anc (masks ops.toList []) i j = false := by
                    cases hq : anc (masks ops.toList []) i j with
                    | false => rfl
                    | true => have := anc_lt i j hq; omega
                  have n2 : anc (masks ops.toList []) j i = false := by
                    cases hq : anc (masks ops.toList []) j i with
                    | false => rfl
                    | true => have := anc_out j hq; rw [hDj] at this; cases this
                  rw [g6]
                  exact (hok.reads i j o p r s ho g3 hr g4 hri g5 hw1 n1 n2).2
              · rcases rows_fwd hT (i - m) m i (by omega) (by omega) with h3 | ⟨j, p, s, g1, g2, g3, g4, g5, g6⟩
                · exact hbase h3
                · have hji : j ≠ i := by omega
                  have hDj : listed.getD j false = false := by
                    cases hq : listed.getD j false with
                    | false => rfl
                    | true => have := (hw j p g3 g5).1 hq; omega
                  have n1 : anc (masks ops.toList []) i j = false := by
                    cases hq : anc (masks ops.toList []) i j with
                    | false => rfl
                    | true => have := anc_in j hji hq; rw [hDj] at this; cases this
                  have n2 : anc (masks ops.toList []) j i = false := by
                    cases hq : anc (masks ops.toList []) j i with
                    | false => rfl
                    | true => have := anc_lt j i hq; omega
                  rw [g6]
                  exact (hok.reads i j o p r s ho g3 hr g4 hri g5 hw1 n1 n2).1
            · exact execN_pure hwi' (by simpa using hri) hx _
        obtain ⟨m2, hm2, hw2, hx2⟩ := hstep
        obtain ⟨n, w', σ2, k1, k2, k3, k4⟩ := execN_sound (oval_rel hE) hS hx2
        refine oper_of (execN_nd hx2) ?_
        rw [k1]
        have hE2 := hE.mono k2
        cases hv : r.v with
        | none =>
          rw [hv] at k4
          cases n <;> simp only [NextOk] at k4
          refine ih _ _ _ hu1 ⟨hdf _, hsz1, hclosed1, m2, σ2, hm2, hw2, hle.trans k2, k3, hERel ?_⟩
          rw [hv]; exact hE2.putDst hdst (fun u hu => by cases hu)
        | some u =>
          rw [hv] at k4
          cases n <;> simp only [NextOk] at k4
          refine ih _ _ _ hu1 ⟨hdf _, hsz1, hclosed1, m2, σ2, hm2, hw2, hle.trans k2, k3, hERel ?_⟩
          rw [hv]; exact hE2.putDst hdst (fun u' hu => by cases hu; exact k4)
      · -- a call
        have hwi := opCall_isW hc
        obtain ⟨g1, g2⟩ := hWrows hwi
        rw [← opCall_congr hoval] at hc
        obtain ⟨cargs, k1, k2⟩ := opCall_sound (oval_rel hE) hc
        refine oper_of (opCall_nd hc) ?_
        rw [k2 w]
        simp only [Oper.uponIn]
        rw [g1] at hS
        refine ⟨fun h => by simp [fc, Fence.wide] at h, fc_calls ((hAC base w0 σ1 w cargs hS k1).mono ?_)⟩
        rintro en w' ⟨c, σ2, v', H2, rfl, q1, q2, q3, rfl, rfl⟩
        refine ih _ _ _ hu1 ⟨hdf _, hsz1, hclosed1, i + 1, σ2, by omega, g2, hle.trans q1, by rw [hn1]; exact q2, hERel ?_⟩
        rw [hv]
        exact (hE.mono q1).putDst hdst (fun u' hu => by cases hu; exact q3)

theorem AW_draw {id : Nat} {Q : Ex → Env → AH → Prop} (hm : P.follows .mixedOrders = true) (ks : List Nat) (hT : Trace P nt ops ops.toList e H tr e' H') (hok : DrawOk P ops tr) (hq : Q .normal (ekeep ks e') H') :
    AW P nt (.region id ops true) e H Q := fun ro base w0 σ w a ho S hr => by
  refine wpIn_region_any hm ?_
  have hS : Sim base w0 σ H { w with drawn := w.drawn + 1 } := S.drew
  have hI : Inv P nt ops tr H' e base w0 σ a.defers (Array.replicate ops.size false) a { w with drawn := w.drawn + 1 } := by
    have hz : ∀ j, (Array.replicate ops.size false).getD j false = false := fun j => by
      simp [Array.getD_eq_getD_getElem?, Array.getElem?_replicate]
      split <;> rfl
    refine ⟨rfl, by simp, fun i o _ h => ?_, 0, σ, by omega, fun j p _ _ => ?_, .refl σ, by rw [hT.first]; exact hS, ?_⟩
    · simp only [hz] at h; cases h
    · rw [hz]; simp
    · rw [foldD_none _ _ _ _ _ (fun j => hz _)]; exact hr
  have hmain := draw_main (ro := ro) hT hok ops.size _ a _ (by unfold unl; exact Nat.le_trans (List.length_filter_le _ _) (by simp)) hI
  have hQ : ∀ ex a1 w, AWPost base w0 nt σ a.defers (fun x e2 H2 => x = .normal ∧ e2 = e' ∧ H2 = H') ex a1 w → AWPost base w0 nt σ a.defers Q ex a1 w := by
    rintro ex a w ⟨x, σ', e2, H2, rfl, h2, h3, h4, hmk, rfl, rfl, rfl⟩
    exact ⟨.normal, σ', _, _, rfl, h2, h3, h4.keep ks, hmk, hq⟩
  have hmono : ∀ (fuel : Nat) (listed : Array Bool) (a1 : Act) (w : World), wpAnyIn (fc ro) 0 P .any ops (AWPost base w0 nt σ a.defers fun x e2 H2 => x = .normal ∧ e2 = e' ∧ H2 = H') fuel listed a1 w → wpAnyIn (fc ro) 0 P .any ops (AWPost base w0 nt σ a.defers Q) fuel listed a1 w := by
    intro fuel
    induction fuel with
    | zero => intro listed a w h; exact ⟨h.1, hQ _ _ _ h.2⟩
    | succ fuel ih =>
      intro listed a w h
      refine ⟨fun hr => hQ _ _ _ (h.1 hr), fun i hi => ?_⟩
      have := h.2 i hi
      unfold wpOpIn at this ⊢
      split
      · rename_i hn; rw [hn] at this; exact ih _ _ _ this
      · rename_i o hn
        rw [hn] at this
        simp only [] at this
        split
        · rename_i hw
          rw [if_pos hw] at this
          exact operIn_mono (ih _) hQ this
        · rename_i hw; rw [if_neg hw] at this; exact ⟨this.1, ih _ _ _ this.2⟩
  exact hmono _ _ _ _ hmain
end
end Go.Proofs.Ytbimapbcpmeooaa.AX

/- A plain reading of runs: a statement whose order is open, whose last operation follows all others. -/
namespace Go.Proofs.Ytbimapbcpmeooaa.AX
open Go Go.RowKit
section
variable {P : Program} {nt : Nat} {ops : Array Oper} {l : List Oper}
variable {e e' : Env} {H H' : AH} {tr : List Rec}

theorem rowsL_back (hT : Trace P nt ops l e H tr e' H') (i : Nat) : ∀ m, i ≤ m → m ≤ l.length → rowsAt tr H' m = rowsAt tr H' i ∨
    ∃ j p s, i ≤ j ∧ j < m ∧ l[j]? = some p ∧ tr[j]? = some s ∧ isW p.op = true ∧ rowsAt tr H' m = s.H' := by
  intro m
  induction m with
  | zero => intro h _; left; rw [show i = 0 by omega]
  | succ m ih =>
    intro h1 h2
    rcases Nat.lt_or_ge m i with h3 | h3
    · left; rw [show i = m + 1 by omega]
    · have hl : tr.length = l.length := hT.length
      have hm : m < tr.length := by omega
      have hr : tr[m]? = some tr[m] := List.getElem?_eq_getElem hm
      have ho : l[m]? = some l[m] := List.getElem?_eq_getElem (by omega)
      have hn := hT.next m _ hr
      by_cases hw : isW l[m].op = true
      · exact .inr ⟨m, _, _, h3, by omega, ho, hr, hw, hn⟩
      · have hs := (hT.did m _ _ ho hr).same (by simpa using hw)
        have h0 : rowsAt tr H' m = tr[m].H := by simp [rowsAt, hr]
        rw [hn, hs, ← h0]
        rcases ih h3 (by omega) with h4 | ⟨j, p, s, g1, g2, g3⟩
        · exact .inl h4
        · exact .inr ⟨j, p, s, g1, by omega, g3⟩

theorem rowsL_fwd (hT : Trace P nt ops l e H tr e' H') : ∀ (d m i : Nat), i = m + d → i ≤ l.length → rowsAt tr H' m = rowsAt tr H' i ∨
    ∃ j p s, m ≤ j ∧ j < i ∧ l[j]? = some p ∧ tr[j]? = some s ∧ isW p.op = true ∧ rowsAt tr H' m = s.H := by
  intro d
  induction d with
  | zero => intro m i h _; left; rw [h]; rfl
  | succ d ih =>
    intro m i h1 h2
    have hl : tr.length = l.length := hT.length
    have hm : m < tr.length := by omega
    have hr : tr[m]? = some tr[m] := List.getElem?_eq_getElem hm
    have ho : l[m]? = some l[m] := List.getElem?_eq_getElem (by omega)
    have hn := hT.next m _ hr
    have h0 : rowsAt tr H' m = tr[m].H := by simp [rowsAt, hr]
    by_cases hw : isW l[m].op = true
    · exact .inr ⟨m, _, _, Nat.le_refl _, by omega, ho, hr, hw, h0⟩
    · have hs := (hT.did m _ _ ho hr).same (by simpa using hw)
      rw [h0, ← hs, ← hn]
      rcases ih (m + 1) i (by omega) h2 with h4 | ⟨j, p, s, g1, g2, g3⟩
      · exact .inl h4
      · exact .inr ⟨j, p, s, by omega, g2, g3⟩

/-- What holds on the way to the last operation, whatever the order. -/
structure InvL (P : Program) (nt : Nat) (ops : Array Oper) (l : List Oper) (tr : List Rec) (H' : AH) (e : Env) (base : Nat) (w0 : World) (σ : Inj) (ds : List Deferred) (listed : Array Bool) (a : Act) (w : World) : Prop where
  defs : a.defers = ds
  open_ : listed.getD l.length false = false
  size : listed.size = ops.size
  closed : Closed ops fun i => listed.getD i false
  st : ∃ m σ', m ≤ l.length ∧ (∀ (j : Nat) (p : Oper), l[j]? = some p → isW p.op = true → (listed.getD j false = true ↔ j < m)) ∧ σ.le σ' ∧ Sim base w0 σ' (rowsAt tr H' m) w ∧
    ERel σ' nt (foldD l tr (fun i => listed.getD i false) 0 e) a

/-- What is read is the same ahead of and behind each operation that writes memory and stands in no order to the reading: up to the last operation. -/
def readsL (P : Program) (ops : Array Oper) (l : List Oper) (tr : List Rec) : Prop :=
  ∀ (i j : Nat) (o p : Oper) (r s : Rec), l[i]? = some o → l[j]? = some p → tr[i]? = some r → tr[j]? = some s → isR o.op = true → isW p.op = true → wantedA ops r.e o = some true →
    anc (masks ops.toList []) i j = false → anc (masks ops.toList []) j i = false → execN P (oval r.e) s.H o.op = some (r.v, s.H) ∧ execN P (oval r.e) s.H' o.op = some (r.v, s.H')

theorem draw_mainL {oL : Oper} {QE : Env → AH → Prop} (hops : ops.toList = l ++ [oL]) (hT : Trace P nt ops l e H tr e' H') (hord : ordOK ops = true) (hrd : readsL P ops l tr) (hanc : ∀ i, i < l.length → anc (masks ops.toList []) l.length i = true)
    (hlast : AO P nt ops [oL] e' H' QE) {ro : Option Nat} {ds : List Deferred} {base : Nat} {w0 : World} {σ : Inj} (hro : RoOk ro σ) : ∀ (fuel : Nat) (listed : Array Bool) (a : Act) (w : World), unl ops.size listed ≤ fuel →
    InvL P nt ops l tr H' e base w0 σ ds listed a w → wpAnyIn (fc ro) 0 P .any ops (AWPost base w0 nt σ ds fun x e2 H2 => x = .normal ∧ QE e2 H2) fuel listed a w := by
  have hl : tr.length = l.length := hT.length
  have hsize : ops.size = l.length + 1 := by rw [← Array.length_toList, hops]; simp
  have hlo : ∀ (j : Nat) (p : Oper), l[j]? = some p → ops[j]? = some p := fun j p hj => by
    rw [← Array.getElem?_toList, hops, List.getElem?_append_left (List.getElem?_eq_some_iff.1 hj).1]; exact hj
  have hol' : ∀ (j : Nat) (p : Oper), j < l.length → ops[j]? = some p → l[j]? = some p := fun j p hlt hj => by
    rw [← Array.getElem?_toList, hops, List.getElem?_append_left hlt] at hj; exact hj
  have hk : ops[l.length]? = some oL := by
    rw [← Array.getElem?_toList, hops, List.getElem?_append_right (Nat.le_refl _)]; simp
  have hready : ∀ (listed : Array Bool), listed.size = ops.size → Region.ready .any ops listed = [] → ∀ i, i < ops.size → listed.getD i false = true := by
    intro listed hsz hr i
    induction i using Nat.strongRecOn with
    | _ i ih =>
      intro hi
      by_cases hd : listed.getD i false = true
      · exact hd
      · exfalso
        have ho : ops[i]? = some ops[i] := Array.getElem?_eq_getElem hi
        have : i ∈ Region.ready .any ops listed := by
          rw [mem_ready]
          refine ⟨?_, ops[i], ho, fun e he hb => ?_⟩
          · have h1 : i < listed.size := by omega
            simp [h1] at hd ⊢
            exact hd
          · have := ord_edge hord ho he hb
            exact ih e.on this (by omega)
        rw [hr] at this; simp at this
  intro fuel
  induction fuel with
  | zero =>
    intro listed a w hu I
    exfalso
    unfold unl at hu
    have hnil : ((List.range ops.size).filter fun i => !listed.getD i false) = [] := List.eq_nil_of_length_eq_zero (by omega)
    rw [List.filter_eq_nil_iff] at hnil
    have := hnil l.length (by simp; omega)
    rw [I.open_] at this
    simp at this
  | succ fuel ih =>
    intro listed a w hu I
    refine ⟨fun hr => (by have := hready listed I.size hr l.length (by omega); rw [I.open_] at this; cases this), fun i hi => ?_⟩
    rw [mem_ready] at hi
    obtain ⟨h1, o, ho, hafter⟩ := hi
    have hlt : i < ops.size := (Array.getElem?_eq_some_iff.1 ho).1
    have hltl : i < listed.size := by rw [I.size]; exact hlt
    have hDi : listed.getD i false = false := by simp [hltl] at h1 ⊢; exact h1
    obtain ⟨m, σ1, hm, hw, hle, hS, hE⟩ := I.st
    by_cases hil : i = l.length
    · subst hil
      rw [hk] at ho
      cases ho
      have hset := getD_set (listed := listed) hltl
      have hclosed1 : Closed ops fun x => (listed.setIfInBounds l.length true).getD x false := by
        intro x p hp hx e' he' hb
        simp only [hset, Bool.or_eq_true] at hx ⊢
        rcases hx with hx | hx
        · exact .inl (I.closed x p hp hx e' he' hb)
        · simp at hx; subst hx
          rw [hk] at hp; cases hp
          exact .inl (hafter e' he' hb)
      have hall : ∀ j, j < l.length → listed.getD j false = true := fun j hj => by
        have := anc_closed hclosed1 (hanc j hj) (by simp [hset])
        simp only [hset, Bool.or_eq_true, beq_iff_eq] at this
        exact this.resolve_right (by omega)
      have hrows : rowsAt tr H' m = H' := by
        rcases rowsL_fwd hT (l.length - m) m l.length (by omega) (Nat.le_refl _) with h1 | ⟨j, p, s, g1, g2, g3, g4, g5, _⟩
        · rw [h1]; simp [rowsAt, ← hl]
        · have := (hw j p g3 g5).1 (hall j g2); omega
      have henv : ∀ t, eget (foldD l tr (fun i => listed.getD i false) 0 e) t = eget e' t := by
        intro t
        rw [hT.last 0 (fun _ => true) (fun _ => rfl)]
        refine foldD_agree _ _ _ _ _ _ _ _ (fun j o hj _ => ?_) rfl
        simpa using hall j (List.getElem?_eq_some_iff.1 hj).1
      rw [hrows] at hS
      have hE' : ERel σ1 nt e' a := ⟨hE.1, hE.2.1, fun t => by rw [← henv t]; exact hE.2.2 t⟩
      have hA := hlast ro base w0 σ1 w a (hro.mono hle) hS hE'
      have hQ : ∀ ex a1 w1, AWPost base w0 nt σ1 a.defers (fun x e2 H2 => x = .normal ∧ QE e2 H2) ex a1 w1 → AWPost base w0 nt σ ds (fun x e2 H2 => x = .normal ∧ QE e2 H2) ex a1 w1 := by
        intro ex a1 w1 h
        have := AWPost.mono (σ := σ) (a1 := a) hle (Marks.refl σ σ1 a) (fun _ _ _ h => h) h
        rwa [I.defs] at this
      have hfull : ∀ j, j < ops.size → (listed.setIfInBounds l.length true).getD j false = true := fun j hj => by
        rw [hset]
        by_cases hjl : j = l.length
        · subst hjl; simp
        · rw [hall j (by omega)]; rfl
      have hnone : Region.ready .any ops (listed.setIfInBounds l.length true) = [] := by
        rw [List.eq_nil_iff_forall_not_mem]
        intro j hj
        rw [mem_ready] at hj
        obtain ⟨h1, o, ho, _⟩ := hj
        have hjl : j < ops.size := (Array.getElem?_eq_some_iff.1 ho).1
        have h2 := hfull j hjl
        have h3 : j < (listed.setIfInBounds l.length true).size := by simp [I.size]; exact hjl
        rw [Array.getD_eq_getD_getElem?, Array.getElem?_eq_getElem h3] at h2
        rw [Array.getD_eq_getD_getElem?, Array.getElem?_eq_getElem h3] at h1
        simp only [Option.getD_some] at h1 h2
        rw [h1] at h2; cases h2
      have hK : ∀ a1 w1, AWPost base w0 nt σ1 a.defers (fun x e2 H2 => x = .normal ∧ QE e2 H2) .normal a1 w1 → wpAnyIn (fc ro) 0 P .any ops (AWPost base w0 nt σ ds fun x e2 H2 => x = .normal ∧ QE e2 H2) fuel (listed.setIfInBounds l.length true) a1 w1 := by
        intro a1 w1 h
        cases fuel with
        | zero => exact ⟨hnone, hQ _ _ _ h⟩
        | succ fuel => exact ⟨fun _ => hQ _ _ _ h, fun j hj => by rw [hnone] at hj; cases hj⟩
      unfold wpListIn at hA
      unfold wpOpIn
      simp only [hk]
      split
      · rename_i hwn
        rw [if_pos hwn] at hA
        exact operIn_mono hK hQ hA
      · rename_i hwn
        rw [if_neg hwn] at hA
        exact ⟨hA.1, hK _ _ hA.2⟩
    have hil' : i < l.length := by omega
    have hol : l[i]? = some o := hol' i o hil' ho
    have hr : tr[i]? = some tr[i] := List.getElem?_eq_getElem (by omega)
    generalize hrdef : tr[i] = r at hr
    have hdid := hT.did i o r hol hr
    have hset := getD_set (listed := listed) hltl
    have hclosed1 : Closed ops fun x => (listed.setIfInBounds i true).getD x false := by
      intro x p hp hx e' he' hb
      simp only [hset, Bool.or_eq_true] at hx ⊢
      rcases hx with hx | hx
      · exact .inl (I.closed x p hp hx e' he' hb)
      · simp at hx; subst hx
        rw [ho] at hp; cases hp
        exact .inl (hafter e' he' hb)
    have hle_closed : Closed ops fun x => decide (x ≤ i) := by
      intro x p hp hx e' he' hb
      have := ord_edge hord hp he' hb
      simp at hx ⊢; omega
    have hle_closed' : ∀ j, Closed ops fun x => decide (x ≤ j) := by
      intro j x p hp hx e' he' hb
      have := ord_edge hord hp he' hb
      simp at hx ⊢; omega
    have anc_lt : ∀ j k, anc (masks ops.toList []) j k = true → k ≤ j := fun j k h => by simpa using anc_closed (hle_closed' j) h (by simp)
    have anc_in : ∀ j, j ≠ i → anc (masks ops.toList []) i j = true → listed.getD j false = true := fun j hne h => by
      have := anc_closed hclosed1 h (by simp [hset])
      simp only [hset, Bool.or_eq_true, beq_iff_eq] at this
      exact this.resolve_right hne
    have anc_out : ∀ j, anc (masks ops.toList []) j i = true → listed.getD j false = false := fun j h => by
      cases hd : listed.getD j false with
      | false => rfl
      | true => have := anc_closed I.closed h hd; rw [hDi] at this; cases this
    -- operations in order to i
    have hcmp : ∀ j p, ops[j]? = some p → j ≠ i → (anc (masks ops.toList []) i j = true ∨ anc (masks ops.toList []) j i = true) → (listed.getD j false = true ↔ j < i) := by
      intro j p hp hne h
      rcases h with h | h
      · have a1 := anc_in j hne h
        have a2 := anc_lt i j h
        simp [a1]; omega
      · have a1 := anc_out j h
        have a2 := anc_lt j i h
        simp [a1]; omega
    have hagree : ∀ t ∈ opNames ops o, eget (foldD l tr (fun i => listed.getD i false) 0 e) t = eget r.e t := by
      intro t ht
      rw [hT.envs 0 i r hr]
      refine foldD_agree _ _ _ _ _ _ _ _ (fun j p hj hd => ?_) rfl
      have hp : ops[j]? = some p := hlo j p hj
      simp only [Nat.zero_add]
      by_cases hji : j = i
      · subst hji; simp; simpa using hDi
      · rcases ord_pair hord ho hp (Ne.symm hji) with h | h | h
        · have := hcmp j p hp hji (.inl h); rw [Bool.eq_iff_iff]; simpa using this
        · have := hcmp j p hp hji (.inr h); rw [Bool.eq_iff_iff]; simpa using this
        · exact absurd ht (h.2 t hd)
    have hupd : ∀ t, eget (foldD l tr (fun x => (listed.setIfInBounds i true).getD x false) 0 e) t =
        eget (putDst (foldD l tr (fun i => listed.getD i false) 0 e) o.dst r.v) t := by
      intro t
      rw [eget_putDst]
      split
      · rename_i hd
        have h2 : eget (foldD l tr (fun x => (listed.setIfInBounds i true).getD x false) 0 e) t = eget (foldD l tr (fun j => decide (j < 0 + i + 1)) 0 e) t := by
          refine foldD_agree _ _ _ _ _ _ _ _ (fun j p hj hdj => ?_) rfl
          have hp : ops[j]? = some p := hlo j p hj
          simp only [Nat.zero_add, hset]
          by_cases hji : j = i
          · subst hji; simp
          · have hb : (j == i) = false := by simpa using hji
            rw [hb, Bool.or_false, Bool.eq_iff_iff]
            have hcm : listed.getD j false = true ↔ j < i := by
              rcases ord_pair hord ho hp (Ne.symm hji) with h | h | h
              · exact hcmp j p hp hji (.inl h)
              · exact hcmp j p hp hji (.inr h)
              · exact absurd (by unfold opNames; simp [hd]) (h.2 t hdj)
            rw [hcm]; simp; omega
        rw [h2, foldD_succ l tr 0 i e o r hol hr, eget_putDst, if_pos hd]
      · rename_i hd
        refine foldD_agree _ _ _ _ _ _ _ _ (fun j p hj hdj => ?_) rfl
        have hp : ops[j]? = some p := hlo j p hj
        simp only [Nat.zero_add, hset]
        by_cases hji : j = i
        · subst hji; rw [ho] at hp; cases hp; exact absurd hdj hd
        · have hb : (j == i) = false := by simpa using hji
          rw [hb, Bool.or_false]
    have hERel : ∀ {σ2 : Inj} {a2 : Act}, ERel σ2 nt (putDst (foldD l tr (fun i => listed.getD i false) 0 e) o.dst r.v) a2 → ERel σ2 nt (foldD l tr (fun x => (listed.setIfInBounds i true).getD x false) 0 e) a2 :=
      fun h => ⟨h.1, h.2.1, fun t => by rw [hupd]; exact h.2.2 t⟩
    have hopen1 : (listed.setIfInBounds i true).getD l.length false = false := by
      rw [hset, I.open_]; simp; omega
    have hu1 : unl ops.size (listed.setIfInBounds i true) ≤ fuel := by
      have : unl ops.size (listed.setIfInBounds i true) < unl ops.size listed := by
        unfold unl
        refine filter_lt (i := i) (fun j hj => ?_) (by simpa using hlt) (by simp [hDi]) (by simp [hset])
        simp only [hset, Bool.not_eq_true', Bool.or_eq_false_iff] at hj ⊢
        exact hj.1
      omega
    have hsz1 : (listed.setIfInBounds i true).size = ops.size := by simp [I.size]
    -- where the rows stand when i writes memory
    have hWrows : isW o.op = true → rowsAt tr H' m = r.H ∧ (∀ (j : Nat) (p : Oper), l[j]? = some p → isW p.op = true → ((listed.setIfInBounds i true).getD j false = true ↔ j < i + 1)) := by
      intro hwi
      have hWj : ∀ (j : Nat) (p : Oper), l[j]? = some p → isW p.op = true → j ≠ i → (listed.getD j false = true ↔ j < i) := by
        intro j p hp hwj hne
        have hp := hlo j p hp
        rcases ord_pair hord ho hp (Ne.symm hne) with h | h | h
        · exact hcmp j p hp hne (.inl h)
        · exact hcmp j p hp hne (.inr h)
        · exact absurd ⟨hwi, hwj⟩ h.1
      constructor
      · have h0 : rowsAt tr H' i = r.H := by simp [rowsAt, hr]
        rw [← h0]
        rcases Nat.lt_or_ge i m with h2 | h2
        · have := (hw i o hol hwi).2 h2; rw [hDi] at this; cases this
        · rcases rowsL_fwd hT (i - m) m i (by omega) (by omega) with h3 | ⟨j, p, s, g1, g2, g3, g4, g5, _⟩
          · exact h3
          · have a1 := (hWj j p g3 g5 (by omega)).2 g2
            have a2 := (hw j p g3 g5).1 a1
            omega
      · intro j p hp hwj
        simp only [hset]
        by_cases hji : j = i
        · subst hji; simp
        · have hb : (j == i) = false := by simpa using hji
          rw [hb, Bool.or_false, hWj j p hp hwj hji]; omega
    have hNrows : isW o.op = false → (∀ (j : Nat) (p : Oper), l[j]? = some p → isW p.op = true → ((listed.setIfInBounds i true).getD j false = true ↔ j < m)) := by
      intro hwi j p hp hwj
      simp only [hset]
      have hji : j ≠ i := by rintro rfl; rw [hol] at hp; cases hp; rw [hwi] at hwj; cases hwj
      have hb : (j == i) = false := by simpa using hji
      rw [hb, Bool.or_false]; exact hw j p hp hwj
    have hn1 : rowsAt tr H' (i + 1) = r.H' := hT.next i r hr
    -- the step
    have hdf : ∀ u, (a.put o.dst u).defers = ds := fun u => by rw [← I.defs]; cases o.dst <;> rfl
    unfold wpOpIn
    simp only [ho]
    have hwant := wantedA_agree (ops := ops) hagree
    rcases hdid with ⟨hw0, hv0, hH0⟩ | ⟨hdst, hw1, hrun⟩ | ⟨hw0, hv0, hH0⟩
    rotate_left 2
    · rw [if_neg (by rw [wantedT_false hE ((wantedT_agree (ops := ops) hagree).trans hw0)]; simp)]
      refine ⟨fun _ _ => trivial, ih _ _ _ hu1 ⟨hdf _, hopen1, hsz1, hclosed1, ?_⟩⟩
      have hE2 : ERel σ1 nt (putDst (foldD l tr (fun i => listed.getD i false) 0 e) o.dst r.v) (a.put o.dst undef) := by
        rw [hv0, putDst_skip]
        exact hE.putSkip o.dst
      by_cases hwi : isW o.op = true
      · obtain ⟨g1, g2⟩ := hWrows hwi
        exact ⟨i + 1, σ1, by omega, g2, hle, by rw [hn1, hH0, ← g1]; exact hS, hERel hE2⟩
      · exact ⟨m, σ1, hm, hNrows (by simpa using hwi), hle, hS, hERel hE2⟩
    · rw [if_neg (by rw [wantedA_sound hE (hwant.trans hw0)]; simp)]
      refine ⟨fun _ _ => trivial, ih _ _ _ hu1 ⟨hdf _, hopen1, hsz1, hclosed1, ?_⟩⟩
      have hE2 : ERel σ1 nt (putDst (foldD l tr (fun i => listed.getD i false) 0 e) o.dst r.v) (a.put o.dst undef) := by
        rw [hv0]
        cases hd : o.dst with
        | none => exact hE
        | some t => exact hE.del t undef
      by_cases hwi : isW o.op = true
      · obtain ⟨g1, g2⟩ := hWrows hwi
        exact ⟨i + 1, σ1, by omega, g2, hle, by rw [hn1, hH0, ← g1]; exact hS, hERel hE2⟩
      · exact ⟨m, σ1, hm, hNrows (by simpa using hwi), hle, hS, hERel hE2⟩
    · rw [if_pos (wantedA_sound hE (hwant.trans hw1))]
      have hoval := oval_agree (ops := ops) hagree
      rcases hrun with hx | ⟨f, args, v, hc, hv, hAC⟩
      · -- no call
        have hstep : ∃ m2, m2 ≤ l.length ∧ (∀ (j : Nat) (p : Oper), l[j]? = some p → isW p.op = true → ((listed.setIfInBounds i true).getD j false = true ↔ j < m2)) ∧
            execN P (oval (foldD l tr (fun i => listed.getD i false) 0 e)) (rowsAt tr H' m) o.op = some (r.v, rowsAt tr H' m2) := by
          rw [execN_congr hoval]
          by_cases hwi : isW o.op = true
          · obtain ⟨g1, g2⟩ := hWrows hwi
            exact ⟨i + 1, by omega, g2, by rw [hn1, g1]; exact hx⟩
          · have hwi' : isW o.op = false := by simpa using hwi
            refine ⟨m, hm, hNrows hwi', ?_⟩
            have hsame := execN_same hwi' hx
            by_cases hri : isR o.op = true
            · have h0 : rowsAt tr H' i = r.H := by simp [rowsAt, hr]
              have hbase : rowsAt tr H' m = rowsAt tr H' i → execN P (oval r.e) (rowsAt tr H' m) o.op = some (r.v, rowsAt tr H' m) := by
                intro he; rw [he, h0]; rw [hsame] at hx; exact hx
              rcases Nat.lt_or_ge i m with h2 | h2
              · rcases rowsL_back hT i m (by omega) hm with h3 | ⟨j, p, s, g1, g2, g3, g4, g5, g6⟩
                · exact hbase h3
                · have hji : j ≠ i := by rintro rfl; rw [hol] at g3; cases g3; rw [hwi'] at g5; cases g5
                  have hDj := (hw j p g3 g5).2 g2
                  have n1 : anc (masks ops.toList []) i j = false := by
                    cases hq : anc (masks ops.toList []) i j with
                    | false => rfl
                    | true => have := anc_lt i j hq; omega
                  have n2 : anc (masks ops.toList []) j i = false := by
                    cases hq : anc (masks ops.toList []) j i with
                    | false => rfl
                    | true => have := anc_out j hq; rw [hDj] at this; cases this
                  rw [g6]
                  exact (hrd i j o p r s hol g3 hr g4 hri g5 hw1 n1 n2).2
              · rcases rowsL_fwd hT (i - m) m i (by omega) (by omega) with h3 | ⟨j, p, s, g1, g2, g3, g4, g5, g6⟩
                · exact hbase h3
                · have hji : j ≠ i := by omega
                  have hDj : listed.getD j false = false := by
                    cases hq : listed.getD j false with
                    | false => rfl
                    | true => have := (hw j p g3 g5).1 hq; omega
                  have n1 : anc (masks ops.toList []) i j = false := by
                    cases hq : anc (masks ops.toList []) i j with
                    | false => rfl
                    | true => have := anc_in j hji hq; rw [hDj] at this; cases this
                  have n2 : anc (masks ops.toList []) j i = false := by
                    cases hq : anc (masks ops.toList []) j i with
                    | false => rfl
                    | true => have := anc_lt j i hq; omega
                  rw [g6]
                  exact (hrd i j o p r s hol g3 hr g4 hri g5 hw1 n1 n2).1
            · exact execN_pure hwi' (by simpa using hri) hx _
        obtain ⟨m2, hm2, hw2, hx2⟩ := hstep
        obtain ⟨n, w', σ2, k1, k2, k3, k4⟩ := execN_sound (oval_rel hE) hS hx2
        refine oper_of (execN_nd hx2) ?_
        rw [k1]
        have hE2 := hE.mono k2
        cases hv : r.v with
        | none =>
          rw [hv] at k4
          cases n <;> simp only [NextOk] at k4
          refine ih _ _ _ hu1 ⟨hdf _, hopen1, hsz1, hclosed1, m2, σ2, hm2, hw2, hle.trans k2, k3, hERel ?_⟩
          rw [hv]; exact hE2.putDst hdst (fun u hu => by cases hu)
        | some u =>
          rw [hv] at k4
          cases n <;> simp only [NextOk] at k4
          refine ih _ _ _ hu1 ⟨hdf _, hopen1, hsz1, hclosed1, m2, σ2, hm2, hw2, hle.trans k2, k3, hERel ?_⟩
          rw [hv]; exact hE2.putDst hdst (fun u' hu => by cases hu; exact k4)
      · -- a call
        have hwi := opCall_isW hc
        obtain ⟨g1, g2⟩ := hWrows hwi
        rw [← opCall_congr hoval] at hc
        obtain ⟨cargs, k1, k2⟩ := opCall_sound (oval_rel hE) hc
        refine oper_of (opCall_nd hc) ?_
        rw [k2 w]
        simp only [Oper.uponIn]
        rw [g1] at hS
        refine ⟨fun h => by simp [fc, Fence.wide] at h, fc_calls ((hAC base w0 σ1 w cargs hS k1).mono ?_)⟩
        rintro en w' ⟨c, σ2, v', H2, rfl, q1, q2, q3, rfl, rfl⟩
        refine ih _ _ _ hu1 ⟨hdf _, hopen1, hsz1, hclosed1, i + 1, σ2, by omega, g2, hle.trans q1, by rw [hn1]; exact q2, hERel ?_⟩
        rw [hv]
        exact (hE.mono q1).putDst hdst (fun u' hu => by cases hu; exact q3)

/-- A statement whose order is open: all but the last operation as they are carried out in order; the last one as it may. -/
theorem AW_drawL {id : Nat} {Q : Ex → Env → AH → Prop} {oL : Oper} (hm : P.follows .mixedOrders = true) (ks : List Nat) (hops : ops.toList = l ++ [oL]) (hT : Trace P nt ops l e H tr e' H') (hord : ordOK ops = true) (hrd : readsL P ops l tr)
    (hanc : ∀ i, i < l.length → anc (masks ops.toList []) l.length i = true) (hlast : AO P nt ops [oL] e' H' fun e2 H2 => Q .normal (ekeep ks e2) H2) : AW P nt (.region id ops true) e H Q := fun ro base w0 σ w a ho S hr => by
  refine wpIn_region_any hm ?_
  have hS : Sim base w0 σ H { w with drawn := w.drawn + 1 } := S.drew
  have hz : ∀ j, (Array.replicate ops.size false).getD j false = false := fun j => by
    simp [Array.getD_eq_getD_getElem?, Array.getElem?_replicate]
    split <;> rfl
  have hI : InvL P nt ops l tr H' e base w0 σ a.defers (Array.replicate ops.size false) a { w with drawn := w.drawn + 1 } := by
    refine ⟨rfl, hz _, by simp, fun i o _ h => ?_, 0, σ, by omega, fun j p _ _ => ?_, .refl σ, by rw [hT.first]; exact hS, ?_⟩
    · simp only [hz] at h; cases h
    · rw [hz]; simp
    · rw [foldD_none _ _ _ _ _ (fun j => hz _)]; exact hr
  have hmain := draw_mainL hops hT hord hrd hanc hlast (ro := ro) ho ops.size _ a _ (by unfold unl; exact Nat.le_trans (List.length_filter_le _ _) (by simp)) hI
  have hQ : ∀ ex a1 w, AWPost base w0 nt σ a.defers (fun x e2 H2 => x = .normal ∧ Q .normal (ekeep ks e2) H2) ex a1 w → AWPost base w0 nt σ a.defers Q ex a1 w := by
    rintro ex a w ⟨x, σ', e2, H2, rfl, h2, h3, h4, hmk, rfl, h5⟩
    exact ⟨.normal, σ', _, _, rfl, h2, h3, h4.keep ks, hmk, h5⟩
  have hmono : ∀ (fuel : Nat) (listed : Array Bool) (a1 : Act) (w : World), wpAnyIn (fc ro) 0 P .any ops (AWPost base w0 nt σ a.defers fun x e2 H2 => x = .normal ∧ Q .normal (ekeep ks e2) H2) fuel listed a1 w → wpAnyIn (fc ro) 0 P .any ops (AWPost base w0 nt σ a.defers Q) fuel listed a1 w := by
    intro fuel
    induction fuel with
    | zero => intro listed a w h; exact ⟨h.1, hQ _ _ _ h.2⟩
    | succ fuel ih =>
      intro listed a w h
      refine ⟨fun hr => hQ _ _ _ (h.1 hr), fun i hi => ?_⟩
      have := h.2 i hi
      unfold wpOpIn at this ⊢
      split
      · rename_i hn; rw [hn] at this; exact ih _ _ _ this
      · rename_i o hn
        rw [hn] at this
        simp only [] at this
        split
        · rename_i hw
          rw [if_pos hw] at this
          exact operIn_mono (ih _) hQ this
        · rename_i hw; rw [if_neg hw] at this; exact ⟨this.1, ih _ _ _ this.2⟩
  exact hmono _ _ _ _ hmain

/-! ### Statements of open order that end with operations in order -/
theorem wpListIn_post {ro : Option Nat} {Q Q' : Exit → Act → World → Prop} (hq : ∀ e a w, Q e a w → Q' e a w) : ∀ (l : List Oper) (a : Act) (w : World), wpListIn (fc ro) 0 P ops Q l a w → wpListIn (fc ro) 0 P ops Q' l a w
  | [], a, w, h => hq _ _ _ h
  | o :: l, a, w, h => by
    unfold wpListIn at h ⊢
    split
    · rename_i hw
      rw [if_pos hw] at h
      exact operIn_mono (fun a w h => wpListIn_post hq l a w h) hq h
    · rename_i hw
      rw [if_neg hw] at h
      exact ⟨h.1, wpListIn_post hq l _ _ h.2⟩
theorem any_tail {ro : Option Nat} {Post : Exit → Act → World → Prop} (hord : ordOK ops = true) (n0 : Nat) (hanc : ∀ k, n0 ≤ k → k < ops.size → ∀ i, i < k → anc (masks ops.toList []) k i = true) :
    ∀ (tl : List Oper) (n : Nat), n0 ≤ n → ops.size = n + tl.length → (∀ j, tl[j]? = ops[n + j]?) → ∀ (fuel : Nat) (listed : Array Bool) (a : Act) (w : World), unl ops.size listed ≤ fuel → listed.size = ops.size →
      (∀ j, j < n → listed.getD j false = true) → (∀ j, n ≤ j → j < ops.size → listed.getD j false = false) → Closed ops (fun x => listed.getD x false) → wpListIn (fc ro) 0 P ops Post tl a w → wpAnyIn (fc ro) 0 P .any ops Post fuel listed a w
  | [], n, _, hsz, _, fuel, listed, a, w, _, hls, hall, _, _, h => by
    have hnone : Region.ready .any ops listed = [] := by
      rw [List.eq_nil_iff_forall_not_mem]
      intro j hj
      rw [mem_ready] at hj
      obtain ⟨h1, o, ho, _⟩ := hj
      have hjl : j < ops.size := (Array.getElem?_eq_some_iff.1 ho).1
      have h2 := hall j (by simp at hsz; omega)
      have h3 : j < listed.size := by omega
      rw [Array.getD_eq_getD_getElem?, Array.getElem?_eq_getElem h3] at h2
      rw [Array.getD_eq_getD_getElem?, Array.getElem?_eq_getElem h3] at h1
      simp only [Option.getD_some] at h1 h2
      rw [h1] at h2; cases h2
    cases fuel with
    | zero => exact ⟨hnone, h⟩
    | succ fuel => exact ⟨fun _ => h, fun j hj => by rw [hnone] at hj; cases hj⟩
  | o :: tl, n, hn, hsz, hops, fuel, listed, a, w, hu, hls, hall, hun, hcl, h => by
    have hnl : n < ops.size := by simp at hsz; omega
    have ho : ops[n]? = some o := by have := hops 0; simpa using this.symm
    cases fuel with
    | zero =>
      exfalso
      unfold unl at hu
      have hnil : ((List.range ops.size).filter fun i => !listed.getD i false) = [] := List.eq_nil_of_length_eq_zero (by omega)
      rw [List.filter_eq_nil_iff] at hnil
      have := hnil n (by simpa using hnl)
      rw [hun n (Nat.le_refl _) hnl] at this
      simp at this
    | succ fuel =>
      have hrn : n ∈ Region.ready .any ops listed := by
        rw [mem_ready]
        refine ⟨?_, o, ho, fun e he hb => hall _ (ord_edge hord ho he hb)⟩
        have h1 : n < listed.size := by omega
        have := hun n (Nat.le_refl _) hnl
        simp [h1] at this ⊢
        exact this
      refine ⟨fun hr => (by rw [hr] at hrn; cases hrn), fun i hi => ?_⟩
      rw [mem_ready] at hi
      obtain ⟨h1, o', ho', hafter⟩ := hi
      have hlt : i < ops.size := (Array.getElem?_eq_some_iff.1 ho').1
      have hltl : i < listed.size := by omega
      have hDi : listed.getD i false = false := by simp [hltl] at h1 ⊢; exact h1
      have hset := getD_set (listed := listed) hltl
      have hclosed1 : Closed ops fun x => (listed.setIfInBounds i true).getD x false := by
        intro x p hp hx e' he' hb
        simp only [hset, Bool.or_eq_true] at hx ⊢
        rcases hx with hx | hx
        · exact .inl (hcl x p hp hx e' he' hb)
        · simp at hx; subst hx
          rw [ho'] at hp; cases hp
          exact .inl (hafter e' he' hb)
      have hin : i = n := by
        rcases Nat.lt_trichotomy i n with h2 | h2 | h2
        · rw [hall i h2] at hDi; cases hDi
        · exact h2
        · exfalso
          have := anc_closed hclosed1 (hanc i (by omega) hlt n h2) (by simp [hset])
          simp only [hset, Bool.or_eq_true, beq_iff_eq] at this
          rcases this with h3 | h3
          · rw [hun n (Nat.le_refl _) hnl] at h3; cases h3
          · omega
      subst hin
      rw [ho] at ho'
      cases ho'
      have hu1 : unl ops.size (listed.setIfInBounds i true) ≤ fuel := by
        have : unl ops.size (listed.setIfInBounds i true) < unl ops.size listed := by
          unfold unl
          refine filter_lt (i := i) (fun j hj => ?_) (by simpa using hlt) (by simp [hDi]) (by simp [hset])
          simp only [hset, Bool.not_eq_true', Bool.or_eq_false_iff] at hj ⊢
          exact hj.1
        omega
      have hK : ∀ a1 w1, wpListIn (fc ro) 0 P ops Post tl a1 w1 → wpAnyIn (fc ro) 0 P .any ops Post fuel (listed.setIfInBounds i true) a1 w1 := fun a1 w1 h =>
        any_tail hord n0 hanc tl (i + 1) (by omega) (by simp at hsz; omega) (fun j => by have := hops (j + 1); rw [List.getElem?_cons_succ] at this; rw [this]; congr 1; omega) fuel _ a1 w1 hu1 (by simp [hls])
          (fun j hj => by
            rw [hset]
            by_cases hji : j = i
            · subst hji; simp
            · rw [hall j (by omega)]; rfl)
          (fun j h2 h3 => by
            rw [hset, hun j (by omega) h3]
            simp; omega) hclosed1 h
      unfold wpListIn at h
      unfold wpOpIn
      simp only [ho]
      split
      · rename_i hwn
        rw [if_pos hwn] at h
        exact operIn_mono hK (fun _ _ _ h => h) h
      · rename_i hwn
        rw [if_neg hwn] at h
        exact ⟨h.1, hK _ _ h.2⟩

theorem draw_mainK {oL : Oper} {tl : List Oper} {QE : Env → AH → Prop} (hops : ops.toList = l ++ oL :: tl) (hT : Trace P nt ops l e H tr e' H') (hord : ordOK ops = true) (hrd : readsL P ops l tr) (hanc : ∀ k, l.length ≤ k → k < ops.size → ∀ i, i < k → anc (masks ops.toList []) k i = true)
    (hlast : AO P nt ops (oL :: tl) e' H' QE) {ro : Option Nat} {ds : List Deferred} {base : Nat} {w0 : World} {σ : Inj} (hro : RoOk ro σ) : ∀ (fuel : Nat) (listed : Array Bool) (a : Act) (w : World), unl ops.size listed ≤ fuel →
    InvL P nt ops l tr H' e base w0 σ ds listed a w → wpAnyIn (fc ro) 0 P .any ops (AWPost base w0 nt σ ds fun x e2 H2 => x = .normal ∧ QE e2 H2) fuel listed a w := by
  have hl : tr.length = l.length := hT.length
  have hsize : ops.size = l.length + (tl.length + 1) := by rw [← Array.length_toList, hops]; simp
  have hlo : ∀ (j : Nat) (p : Oper), l[j]? = some p → ops[j]? = some p := fun j p hj => by
    rw [← Array.getElem?_toList, hops, List.getElem?_append_left (List.getElem?_eq_some_iff.1 hj).1]; exact hj
  have hol' : ∀ (j : Nat) (p : Oper), j < l.length → ops[j]? = some p → l[j]? = some p := fun j p hlt hj => by
    rw [← Array.getElem?_toList, hops, List.getElem?_append_left hlt] at hj; exact hj
  have hk : ops[l.length]? = some oL := by
    rw [← Array.getElem?_toList, hops, List.getElem?_append_right (Nat.le_refl _)]; simp
  have hready : ∀ (listed : Array Bool), listed.size = ops.size → Region.ready .any ops listed = [] → ∀ i, i < ops.size → listed.getD i false = true := by
    intro listed hsz hr i
    induction i using Nat.strongRecOn with
    | _ i ih =>
      intro hi
      by_cases hd : listed.getD i false = true
      · exact hd
      · exfalso
        have ho : ops[i]? = some ops[i] := Array.getElem?_eq_getElem hi
        have : i ∈ Region.ready .any ops listed := by
          rw [mem_ready]
          refine ⟨?_, ops[i], ho, fun e he hb => ?_⟩
          · have h1 : i < listed.size := by omega
            simp [h1] at hd ⊢
            exact hd
          · have := ord_edge hord ho he hb
            exact ih e.on this (by omega)
        rw [hr] at this; simp at this
  intro fuel
  induction fuel with
  | zero =>
    intro listed a w hu I
    exfalso
    unfold unl at hu
    have hnil : ((List.range ops.size).filter fun i => !listed.getD i false) = [] := List.eq_nil_of_length_eq_zero (by omega)
    rw [List.filter_eq_nil_iff] at hnil
    have := hnil l.length (by simp; omega)
    rw [I.open_] at this
    simp at this
  | succ fuel ih =>
    intro listed a w hu I
    refine ⟨fun hr => (by have := hready listed I.size hr l.length (by omega); rw [I.open_] at this; cases this), fun i hi => ?_⟩
    rw [mem_ready] at hi
    obtain ⟨h1, o, ho, hafter⟩ := hi
    have hlt : i < ops.size := (Array.getElem?_eq_some_iff.1 ho).1
    have hltl : i < listed.size := by rw [I.size]; exact hlt
    have hDi : listed.getD i false = false := by simp [hltl] at h1 ⊢; exact h1
    obtain ⟨m, σ1, hm, hw, hle, hS, hE⟩ := I.st
    have hset0 := getD_set (listed := listed) hltl
    have hclosed0 : Closed ops fun x => (listed.setIfInBounds i true).getD x false := by
      intro x p hp hx e' he' hb
      simp only [hset0, Bool.or_eq_true] at hx ⊢
      rcases hx with hx | hx
      · exact .inl (I.closed x p hp hx e' he' hb)
      · simp at hx; subst hx
        rw [ho] at hp; cases hp
        exact .inl (hafter e' he' hb)
    have hin0 : ∀ j, j < i → anc (masks ops.toList []) i j = true → listed.getD j false = true := fun j hj h => by
      have := anc_closed hclosed0 h (by simp [hset0])
      simp only [hset0, Bool.or_eq_true, beq_iff_eq] at this
      exact this.resolve_right (by omega)
    by_cases hil : l.length ≤ i
    · have hil : i = l.length := by
        rcases Nat.lt_or_eq_of_le hil with h | h
        · have := hin0 l.length h (hanc i hil hlt _ h)
          rw [I.open_] at this; cases this
        · exact h.symm
      subst hil
      have hall : ∀ j, j < l.length → listed.getD j false = true := fun j hj => hin0 j hj (hanc _ (Nat.le_refl _) hlt j hj)
      have hrows : rowsAt tr H' m = H' := by
        rcases rowsL_fwd hT (l.length - m) m l.length (by omega) (Nat.le_refl _) with h1 | ⟨j, p, s, g1, g2, g3, g4, g5, _⟩
        · rw [h1]; simp [rowsAt, ← hl]
        · have := (hw j p g3 g5).1 (hall j g2); omega
      have henv : ∀ t, eget (foldD l tr (fun i => listed.getD i false) 0 e) t = eget e' t := by
        intro t
        rw [hT.last 0 (fun _ => true) (fun _ => rfl)]
        refine foldD_agree _ _ _ _ _ _ _ _ (fun j o hj _ => ?_) rfl
        simpa using hall j (List.getElem?_eq_some_iff.1 hj).1
      rw [hrows] at hS
      have hE' : ERel σ1 nt e' a := ⟨hE.1, hE.2.1, fun t => by rw [← henv t]; exact hE.2.2 t⟩
      have hA := hlast ro base w0 σ1 w a (hro.mono hle) hS hE'
      have hQ : ∀ ex a1 w1, AWPost base w0 nt σ1 a.defers (fun x e2 H2 => x = .normal ∧ QE e2 H2) ex a1 w1 → AWPost base w0 nt σ ds (fun x e2 H2 => x = .normal ∧ QE e2 H2) ex a1 w1 := by
        intro ex a1 w1 h
        have := AWPost.mono (σ := σ) (a1 := a) hle (Marks.refl σ σ1 a) (fun _ _ _ h => h) h
        rwa [I.defs] at this
      have hun : ∀ j, l.length ≤ j → j < ops.size → listed.getD j false = false := fun j h1 h2 => by
        rcases Nat.lt_or_eq_of_le h1 with h | rfl
        · cases hd : listed.getD j false with
          | false => rfl
          | true =>
            have := anc_closed I.closed (hanc j h1 h2 _ h) hd
            rw [I.open_] at this; cases this
        · exact I.open_
      have := any_tail hord l.length hanc (oL :: tl) l.length (Nat.le_refl _) (by simpa using hsize) (fun j => by
        rw [← Array.getElem?_toList, hops, List.getElem?_append_right (by omega)]
        congr 1; omega) (fuel + 1) listed a w hu I.size hall hun I.closed (wpListIn_post hQ _ _ _ hA)
      exact this.2 _ (by rw [mem_ready]; exact ⟨h1, o, ho, hafter⟩)
    have hil' : i < l.length := by omega
    have hol : l[i]? = some o := hol' i o hil' ho
    have hr : tr[i]? = some tr[i] := List.getElem?_eq_getElem (by omega)
    generalize hrdef : tr[i] = r at hr
    have hdid := hT.did i o r hol hr
    have hset := getD_set (listed := listed) hltl
    have hclosed1 : Closed ops fun x => (listed.setIfInBounds i true).getD x false := by
      intro x p hp hx e' he' hb
      simp only [hset, Bool.or_eq_true] at hx ⊢
      rcases hx with hx | hx
      · exact .inl (I.closed x p hp hx e' he' hb)
      · simp at hx; subst hx
        rw [ho] at hp; cases hp
        exact .inl (hafter e' he' hb)
    have hle_closed : Closed ops fun x => decide (x ≤ i) := by
      intro x p hp hx e' he' hb
      have := ord_edge hord hp he' hb
      simp at hx ⊢; omega
    have hle_closed' : ∀ j, Closed ops fun x => decide (x ≤ j) := by
      intro j x p hp hx e' he' hb
      have := ord_edge hord hp he' hb
      simp at hx ⊢; omega
    have anc_lt : ∀ j k, anc (masks ops.toList []) j k = true → k ≤ j := fun j k h => by simpa using anc_closed (hle_closed' j) h (by simp)
    have anc_in : ∀ j, j ≠ i → anc (masks ops.toList []) i j = true → listed.getD j false = true := fun j hne h => by
      have := anc_closed hclosed1 h (by simp [hset])
      simp only [hset, Bool.or_eq_true, beq_iff_eq] at this
      exact this.resolve_right hne
    have anc_out : ∀ j, anc (masks ops.toList []) j i = true → listed.getD j false = false := fun j h => by
      cases hd : listed.getD j false with
      | false => rfl
      | true => have := anc_closed I.closed h hd; rw [hDi] at this; cases this
    -- operations in order to i
    have hcmp : ∀ j p, ops[j]? = some p → j ≠ i → (anc (masks ops.toList []) i j = true ∨ anc (masks ops.toList []) j i = true) → (listed.getD j false = true ↔ j < i) := by
      intro j p hp hne h
      rcases h with h | h
      · have a1 := anc_in j hne h
        have a2 := anc_lt i j h
        simp [a1]; omega
      · have a1 := anc_out j h
        have a2 := anc_lt j i h
        simp [a1]; omega
    have hagree : ∀ t ∈ opNames ops o, eget (foldD l tr (fun i => listed.getD i false) 0 e) t = eget r.e t := by
      intro t ht
      rw [hT.envs 0 i r hr]
      refine foldD_agree _ _ _ _ _ _ _ _ (fun j p hj hd => ?_) rfl
      have hp : ops[j]? = some p := hlo j p hj
      simp only [Nat.zero_add]
      by_cases hji : j = i
      · subst hji; simp; simpa using hDi
      · rcases ord_pair hord ho hp (Ne.symm hji) with h | h | h
        · have := hcmp j p hp hji (.inl h); rw [Bool.eq_iff_iff]; simpa using this
        · have := hcmp j p hp hji (.inr h); rw [Bool.eq_iff_iff]; simpa using this
        · exact absurd ht (h.2 t hd)
    have hupd : ∀ t, eget (foldD l tr (fun x => (listed.setIfInBounds i true).getD x false) 0 e) t =
        eget (putDst (foldD l tr (fun i => listed.getD i false) 0 e) o.dst r.v) t := by
      intro t
      rw [eget_putDst]
      split
      · rename_i hd
        have h2 : eget (foldD l tr (fun x => (listed.setIfInBounds i true).getD x false) 0 e) t = eget (foldD l tr (fun j => decide (j < 0 + i + 1)) 0 e) t := by
          refine foldD_agree _ _ _ _ _ _ _ _ (fun j p hj hdj => ?_) rfl
          have hp : ops[j]? = some p := hlo j p hj
          simp only [Nat.zero_add, hset]
          by_cases hji : j = i
          · subst hji; simp
          · have hb : (j == i) = false := by simpa using hji
            rw [hb, Bool.or_false, Bool.eq_iff_iff]
            have hcm : listed.getD j false = true ↔ j < i := by
              rcases ord_pair hord ho hp (Ne.symm hji) with h | h | h
              · exact hcmp j p hp hji (.inl h)
              · exact hcmp j p hp hji (.inr h)
              · exact absurd (by unfold opNames; simp [hd]) (h.2 t hdj)
            rw [hcm]; simp; omega
        rw [h2, foldD_succ l tr 0 i e o r hol hr, eget_putDst, if_pos hd]
      · rename_i hd
        refine foldD_agree _ _ _ _ _ _ _ _ (fun j p hj hdj => ?_) rfl
        have hp : ops[j]? = some p := hlo j p hj
        simp only [Nat.zero_add, hset]
        by_cases hji : j = i
        · subst hji; rw [ho] at hp; cases hp; exact absurd hdj hd
        · have hb : (j == i) = false := by simpa using hji
          rw [hb, Bool.or_false]
    have hERel : ∀ {σ2 : Inj} {a2 : Act}, ERel σ2 nt (putDst (foldD l tr (fun i => listed.getD i false) 0 e) o.dst r.v) a2 → ERel σ2 nt (foldD l tr (fun x => (listed.setIfInBounds i true).getD x false) 0 e) a2 :=
      fun h => ⟨h.1, h.2.1, fun t => by rw [hupd]; exact h.2.2 t⟩
    have hopen1 : (listed.setIfInBounds i true).getD l.length false = false := by
      rw [hset, I.open_]; simp; omega
    have hu1 : unl ops.size (listed.setIfInBounds i true) ≤ fuel := by
      have : unl ops.size (listed.setIfInBounds i true) < unl ops.size listed := by
        unfold unl
        refine filter_lt (i := i) (fun j hj => ?_) (by simpa using hlt) (by simp [hDi]) (by simp [hset])
        simp only [hset, Bool.not_eq_true', Bool.or_eq_false_iff] at hj ⊢
        exact hj.1
      omega
    have hsz1 : (listed.setIfInBounds i true).size = ops.size := by simp [I.size]
    -- where the rows stand when i writes memory
    have hWrows : isW o.op = true → rowsAt tr H' m = r.H ∧ (∀ (j : Nat) (p : Oper), l[j]? = some p → isW p.op = true → ((listed.setIfInBounds i true).getD j false = true ↔ j < i + 1)) := by
      intro hwi
      have hWj : ∀ (j : Nat) (p : Oper), l[j]? = some p → isW p.op = true → j ≠ i → (listed.getD j false = true ↔ j < i) := by
        intro j p hp hwj hne
        have hp := hlo j p hp
        rcases ord_pair hord ho hp (Ne.symm hne) with h | h | h
        · exact hcmp j p hp hne (.inl h)
        · exact hcmp j p hp hne (.inr h)
        · exact absurd ⟨hwi, hwj⟩ h.1
      constructor
      · have h0 : rowsAt tr H' i = r.H := by simp [rowsAt, hr]
        rw [← h0]
        rcases Nat.lt_or_ge i m with h2 | h2
        · have := (hw i o hol hwi).2 h2; rw [hDi] at this; cases this
        · rcases rowsL_fwd hT (i - m) m i (by omega) (by omega) with h3 | ⟨j, p, s, g1, g2, g3, g4, g5, _⟩
          · exact h3
          · have a1 := (hWj j p g3 g5 (by omega)).2 g2
            have a2 := (hw j p g3 g5).1 a1
            omega
      · intro j p hp hwj
        simp only [hset]
        by_cases hji : j = i
        · subst hji; simp
        · have hb : (j == i) = false := by simpa using hji
          rw [hb, Bool.or_false, hWj j p hp hwj hji]; omega
    have hNrows : isW o.op = false → (∀ (j : Nat) (p : Oper), l[j]? = some p → isW p.op = true → ((listed.setIfInBounds i true).getD j false = true ↔ j < m)) := by
      intro hwi j p hp hwj
      simp only [hset]
      have hji : j ≠ i := by rintro rfl; rw [hol] at hp; cases hp; rw [hwi] at hwj; cases hwj
      have hb : (j == i) = false := by simpa using hji
      rw [hb, Bool.or_false]; exact hw j p hp hwj
    have hn1 : rowsAt tr H' (i + 1) = r.H' := hT.next i r hr
    -- the step
    have hdf : ∀ u, (a.put o.dst u).defers = ds := fun u => by rw [← I.defs]; cases o.dst <;> rfl
    unfold wpOpIn
    simp only [ho]
    have hwant := wantedA_agree (ops := ops) hagree
    rcases hdid with ⟨hw0, hv0, hH0⟩ | ⟨hdst, hw1, hrun⟩ | ⟨hw0, hv0, hH0⟩
    rotate_left 2
    · rw [if_neg (by rw [wantedT_false hE ((wantedT_agree (ops := ops) hagree).trans hw0)]; simp)]
      refine ⟨fun _ _ => trivial, ih _ _ _ hu1 ⟨hdf _, hopen1, hsz1, hclosed1, ?_⟩⟩
      have hE2 : ERel σ1 nt (putDst (foldD l tr (fun i => listed.getD i false) 0 e) o.dst r.v) (a.put o.dst undef) := by
        rw [hv0, putDst_skip]
        exact hE.putSkip o.dst
      by_cases hwi : isW o.op = true
      · obtain ⟨g1, g2⟩ := hWrows hwi
        exact ⟨i + 1, σ1, by omega, g2, hle, by rw [hn1, hH0, ← g1]; exact hS, hERel hE2⟩
      · exact ⟨m, σ1, hm, hNrows (by simpa using hwi), hle, hS, hERel hE2⟩
    · rw [if_neg (by rw [wantedA_sound hE (hwant.trans hw0)]; simp)]
      refine ⟨fun _ _ => trivial, ih _ _ _ hu1 ⟨hdf _, hopen1, hsz1, hclosed1, ?_⟩⟩
      have hE2 : ERel σ1 nt (putDst (foldD l tr (fun i => listed.getD i false) 0 e) o.dst r.v) (a.put o.dst undef) := by
        rw [hv0]
        cases hd : o.dst with
        | none => exact hE
        | some t => exact hE.del t undef
      by_cases hwi : isW o.op = true
      · obtain ⟨g1, g2⟩ := hWrows hwi
        exact ⟨i + 1, σ1, by omega, g2, hle, by rw [hn1, hH0, ← g1]; exact hS, hERel hE2⟩
      · exact ⟨m, σ1, hm, hNrows (by simpa using hwi), hle, hS, hERel hE2⟩
    · rw [if_pos (wantedA_sound hE (hwant.trans hw1))]
      have hoval := oval_agree (ops := ops) hagree
      rcases hrun with hx | ⟨f, args, v, hc, hv, hAC⟩
      · -- no call
        have hstep : ∃ m2, m2 ≤ l.length ∧ (∀ (j : Nat) (p : Oper), l[j]? = some p → isW p.op = true → ((listed.setIfInBounds i true).getD j false = true ↔ j < m2)) ∧
            execN P (oval (foldD l tr (fun i => listed.getD i false) 0 e)) (rowsAt tr H' m) o.op = some (r.v, rowsAt tr H' m2) := by
          rw [execN_congr hoval]
          by_cases hwi : isW o.op = true
          · obtain ⟨g1, g2⟩ := hWrows hwi
            exact ⟨i + 1, by omega, g2, by rw [hn1, g1]; exact hx⟩
          · have hwi' : isW o.op = false := by simpa using hwi
            refine ⟨m, hm, hNrows hwi', ?_⟩
            have hsame := execN_same hwi' hx
            by_cases hri : isR o.op = true
            · have h0 : rowsAt tr H' i = r.H := by simp [rowsAt, hr]
              have hbase : rowsAt tr H' m = rowsAt tr H' i → execN P (oval r.e) (rowsAt tr H' m) o.op = some (r.v, rowsAt tr H' m) := by
                intro he; rw [he, h0]; rw [hsame] at hx; exact hx
              rcases Nat.lt_or_ge i m with h2 | h2
              · rcases rowsL_back hT i m (by omega) hm with h3 | ⟨j, p, s, g1, g2, g3, g4, g5, g6⟩
                · exact hbase h3
                · have hji : j ≠ i := by rintro rfl; rw [hol] at g3; cases g3; rw [hwi'] at g5; cases g5
                  have hDj := (hw j p g3 g5).2 g2
                  have n1 : anc (masks ops.toList []) i j = false := by
                    cases hq : anc (masks ops.toList []) i j with
                    | false => rfl
                    | true => have := anc_lt i j hq; omega
                  have n2 : anc (masks ops.toList []) j i = false := by
                    cases hq : anc (masks ops.toList []) j i with
                    | false => rfl
                    | true => have := anc_out j hq; rw [hDj] at this; cases this
                  rw [g6]
                  exact (hrd i j o p r s hol g3 hr g4 hri g5 hw1 n1 n2).2
              · rcases rowsL_fwd hT (i - m) m i (by omega) (by omega) with h3 | ⟨j, p, s, g1, g2, g3, g4, g5, g6⟩
                · exact hbase h3
                · have hji : j ≠ i := by omega
                  have hDj : listed.getD j false = false := by
                    cases hq : listed.getD j false with
                    | false => rfl
                    | true => have := (hw j p g3 g5).1 hq; omega
                  have n1 : anc (masks ops.toList []) i j = false := by
                    cases hq : anc (masks ops.toList []) i j with
                    | false => rfl
                    | true => have := anc_in j hji hq; rw [hDj] at this; cases this
                  have n2 : anc (masks ops.toList []) j i = false := by
                    cases hq : anc (masks ops.toList []) j i with
                    | false => rfl
                    | true => have := anc_lt j i hq; omega
                  rw [g6]
                  exact (hrd i j o p r s hol g3 hr g4 hri g5 hw1 n1 n2).1
            · exact execN_pure hwi' (by simpa using hri) hx _
        obtain ⟨m2, hm2, hw2, hx2⟩ := hstep
        obtain ⟨n, w', σ2, k1, k2, k3, k4⟩ := execN_sound (oval_rel hE) hS hx2
        refine oper_of (execN_nd hx2) ?_
        rw [k1]
        have hE2 := hE.mono k2
        cases hv : r.v with
        | none =>
          rw [hv] at k4
          cases n <;> simp only [NextOk] at k4
          refine ih _ _ _ hu1 ⟨hdf _, hopen1, hsz1, hclosed1, m2, σ2, hm2, hw2, hle.trans k2, k3, hERel ?_⟩
          rw [hv]; exact hE2.putDst hdst (fun u hu => by cases hu)
        | some u =>
          rw [hv] at k4
          cases n <;> simp only [NextOk] at k4
          refine ih _ _ _ hu1 ⟨hdf _, hopen1, hsz1, hclosed1, m2, σ2, hm2, hw2, hle.trans k2, k3, hERel ?_⟩
          rw [hv]; exact hE2.putDst hdst (fun u' hu => by cases hu; exact k4)
      · -- a call
        have hwi := opCall_isW hc
        obtain ⟨g1, g2⟩ := hWrows hwi
        rw [← opCall_congr hoval] at hc
        obtain ⟨cargs, k1, k2⟩ := opCall_sound (oval_rel hE) hc
        refine oper_of (opCall_nd hc) ?_
        rw [k2 w]
        simp only [Oper.uponIn]
        rw [g1] at hS
        refine ⟨fun h => by simp [fc, Fence.wide] at h, fc_calls ((hAC base w0 σ1 w cargs hS k1).mono ?_)⟩
        rintro en w' ⟨c, σ2, v', H2, rfl, q1, q2, q3, rfl, rfl⟩
        refine ih _ _ _ hu1 ⟨hdf _, hopen1, hsz1, hclosed1, i + 1, σ2, by omega, g2, hle.trans q1, by rw [hn1]; exact q2, hERel ?_⟩
        rw [hv]
        exact (hE.mono q1).putDst hdst (fun u' hu => by cases hu; exact q3)

/-- A statement whose order is open: the first ones as they are carried out in order; the others, which are in order, as they may. -/
theorem AW_drawK {id : Nat} {Q : Ex → Env → AH → Prop} {oL : Oper} {tl : List Oper} (hm : P.follows .mixedOrders = true) (ks : List Nat) (hops : ops.toList = l ++ oL :: tl) (hT : Trace P nt ops l e H tr e' H') (hord : ordOK ops = true) (hrd : readsL P ops l tr)
    (hanc : ∀ k, l.length ≤ k → k < ops.size → ∀ i, i < k → anc (masks ops.toList []) k i = true) (hlast : AO P nt ops (oL :: tl) e' H' fun e2 H2 => Q .normal (ekeep ks e2) H2) : AW P nt (.region id ops true) e H Q := fun ro base w0 σ w a ho S hr => by
  refine wpIn_region_any hm ?_
  have hS : Sim base w0 σ H { w with drawn := w.drawn + 1 } := S.drew
  have hz : ∀ j, (Array.replicate ops.size false).getD j false = false := fun j => by
    simp [Array.getD_eq_getD_getElem?, Array.getElem?_replicate]
    split <;> rfl
  have hI : InvL P nt ops l tr H' e base w0 σ a.defers (Array.replicate ops.size false) a { w with drawn := w.drawn + 1 } := by
    refine ⟨rfl, hz _, by simp, fun i o _ h => ?_, 0, σ, by omega, fun j p _ _ => ?_, .refl σ, by rw [hT.first]; exact hS, ?_⟩
    · simp only [hz] at h; cases h
    · rw [hz]; simp
    · rw [foldD_none _ _ _ _ _ (fun j => hz _)]; exact hr
  have hmain := draw_mainK hops hT hord hrd hanc hlast (ro := ro) ho ops.size _ a _ (by unfold unl; exact Nat.le_trans (List.length_filter_le _ _) (by simp)) hI
  have hQ : ∀ ex a1 w, AWPost base w0 nt σ a.defers (fun x e2 H2 => x = .normal ∧ Q .normal (ekeep ks e2) H2) ex a1 w → AWPost base w0 nt σ a.defers Q ex a1 w := by
    rintro ex a w ⟨x, σ', e2, H2, rfl, h2, h3, h4, hmk, rfl, h5⟩
    exact ⟨.normal, σ', _, _, rfl, h2, h3, h4.keep ks, hmk, h5⟩
  have hmono : ∀ (fuel : Nat) (listed : Array Bool) (a1 : Act) (w : World), wpAnyIn (fc ro) 0 P .any ops (AWPost base w0 nt σ a.defers fun x e2 H2 => x = .normal ∧ Q .normal (ekeep ks e2) H2) fuel listed a1 w → wpAnyIn (fc ro) 0 P .any ops (AWPost base w0 nt σ a.defers Q) fuel listed a1 w := by
    intro fuel
    induction fuel with
    | zero => intro listed a w h; exact ⟨h.1, hQ _ _ _ h.2⟩
    | succ fuel ih =>
      intro listed a w h
      refine ⟨fun hr => hQ _ _ _ (h.1 hr), fun i hi => ?_⟩
      have := h.2 i hi
      unfold wpOpIn at this ⊢
      split
      · rename_i hn; rw [hn] at this; exact ih _ _ _ this
      · rename_i o hn
        rw [hn] at this
        simp only [] at this
        split
        · rename_i hw
          rw [if_pos hw] at this
          exact operIn_mono (ih _) hQ this
        · rename_i hw; rw [if_neg hw] at this; exact ⟨this.1, ih _ _ _ this.2⟩
  exact hmono _ _ _ _ hmain
end
end Go.Proofs.Ytbimapbcpmeooaa.AX

/- A plain reading of runs: a run that can be reckoned. -/
namespace Go.Proofs.Ytbimapbcpmeooaa.AX
open Go Go.RowKit

def eqb0 : AV → AV → Bool
  | .bool a, .bool b => a == b
  | .int k a, .int k' b => decide (k = k') && decide (a = b)
  | .str a, .str b => a == b
  | .nilptr, .nilptr | .nilmap, .nilmap | .nilfunc, .nilfunc | .niliface, .niliface => true
  | .ptr r o v, .ptr r' o' v' => r == r' && o == o' && v == v'
  | .slice r o l v s f, .slice r' o' l' v' s' f' => r == r' && o == o' && l == l' && v == v' && s == s' && f == f'
  | .map a, .map b => a == b
  | _, _ => false

def eqbL : List AV → List AV → Bool
  | [], [] => true
  | a :: l, b :: m => eqb0 a b && eqbL l m
  | _, _ => false

def eqb : AV → AV → Bool
  | .agg a, .agg b => eqbL a b
  | a, b => eqb0 a b

theorem eqb0_eq {a b : AV} (h : eqb0 a b = true) : a = b := by
  cases a <;> cases b <;> simp_all [eqb0]

theorem eqbL_eq : ∀ {a b : List AV}, eqbL a b = true → a = b
  | [], [], _ => rfl
  | [], _ :: _, h => by simp [eqbL] at h
  | _ :: _, [], h => by simp [eqbL] at h
  | a :: l, b :: m, h => by
    simp only [eqbL, Bool.and_eq_true] at h
    rw [eqb0_eq h.1, eqbL_eq h.2]

theorem eqb_eq {a b : AV} (h : eqb a b = true) : a = b := by
  unfold eqb at h
  split at h
  · rw [eqbL_eq h]
  · exact eqb0_eq h

def isFnCall : Op → Bool
  | .call { callee := .value _, .. } => true
  | .call { callee := .invoke .., .. } => true
  | _ => false

abbrev Caller := FuncId → List AV → AH → Option (AV × AH)

def runOps (P : Program) (call : Caller) (nt : Nat) (ops : Array Oper) : List Oper → Env → AH → Option (List Rec × Env × AH)
  | [], e, H => some ([], e, H)
  | o :: rest, e, H =>
    match wantedA ops e o with
    | none => none
    | some false =>
      match runOps P call nt ops rest (putDst e o.dst none) H with
      | some (tr, x) => some (⟨e, H, none, H⟩ :: tr, x)
      | none => none
    | some true =>
      if dstOk nt o.dst then
        if isFnCall o.op then
          match opCall P (oval e) o.op with
          | none => none
          | some (f, args) =>
            match call f args H with
            | none => none
            | some (v, H1) =>
              match runOps P call nt ops rest (putDst e o.dst (some v)) H1 with
              | some (tr, x) => some (⟨e, H, some v, H1⟩ :: tr, x)
              | none => none
        else
          match execN P (oval e) H o.op with
          | none => none
          | some (v, H1) =>
            match runOps P call nt ops rest (putDst e o.dst v) H1 with
            | some (tr, x) => some (⟨e, H, v, H1⟩ :: tr, x)
            | none => none
      else none

def eqRes (x : Option (Option AV × AH)) (v : Option AV) : Bool :=
  match x, v with
  | some (some a, _), some b => eqb a b
  | _, _ => false

def readsB (P : Program) (ops : Array Oper) (tr : List Rec) : Bool :=
  let ms := masks ops.toList []
  let z := (ops.toList.zip tr).zipIdx
  z.all fun x => !isR x.1.1.op || (match wantedA ops x.1.2.e x.1.1 with | some true => false | _ => true) ||
    z.all fun y => !isW y.1.1.op || anc ms x.2 y.2 || anc ms y.2 x.2 ||
      (eqRes (execN P (oval x.1.2.e) y.1.2.H x.1.1.op) x.1.2.v && eqRes (execN P (oval x.1.2.e) y.1.2.H' x.1.1.op) x.1.2.v)

def runC (P : Program) (ks : List Nat) (call : Caller) (nt : Nat) : Nat → Code → Env → AH → Option (Ex × Env × AH)
  | 0, _, _, _ => none
  | n + 1, c, e, H =>
    match c with
    | .skip | .label _ => some (.normal, e, H)
    | .region _ ops draw =>
      match runOps P call nt ops ops.toList e H with
      | none => none
      | some (tr, e', H') => if draw && !readsB P ops tr then none else some (.normal, ekeep ks e', H')
    | .seq a b =>
      match runC P ks call nt n a e H with
      | some (.normal, e, H) => runC P ks call nt n b e H
      | r => r
    | .cond x a b =>
      match oval e x with
      | .bool true => runC P ks call nt n a e H
      | .bool false => runC P ks call nt n b e H
      | _ => none
    | .block i a =>
      match runC P ks call nt n a e H with
      | some (.exit j, e, H) => if j = i then some (.normal, e, H) else some (.exit j, e, H)
      | r => r
    | .loop a =>
      match runC P ks call nt n a e H with
      | some (.normal, e, H) => runC P ks call nt n (.loop a) e H
      | r => r
    | .exit i => some (.exit i, e, H)
    | .goto l => some (.goto l, e, H)
    | .ret => some (.ret, e, H)
    | _ => none

def prefB (N : Nat) (H' : AH) : Bool := decide (N ≤ H'.length) && (H'.take N).all (objBelB N)

/-- 'good': the functions that are run; 'keep': what is kept between the statements of a function; 'ext': what is known of other functions. -/
structure Cx (P : Program) where
  good : FuncId → Bool
  keep : FuncId → List Nat
  ext : Caller

def runF {P : Program} (C : Cx P) : Nat → Caller
  | 0, _, _, _ => none
  | n + 1, f, args, H =>
    match C.ext f args H with
    | some r => some r
    | none =>
      if C.good f then
        match P.funcs[f]? with
        | none => none
        | some fn =>
          match fn.body with
          | none => none
          | some c =>
            match runC P (C.keep f) (runF C n) (max args.length fn.ntmps) n c (argsEnv 0 args) H with
            | some (.normal, e, H') | some (.ret, e, H') =>
              match aResults P fn e H' with
              | some v => if prefB H.length H' then some (finish H.length H' v) else some (v, H')
              | none => none
            | _ => none
      else none

/-- In each statement whose order is open the edges are in order. -/
def codeOrd : Code → Bool
  | .region _ ops draw => !draw || ordOK ops
  | .seq a b => codeOrd a && codeOrd b
  | .cond _ a b => codeOrd a && codeOrd b
  | .block _ a => codeOrd a
  | .loop a => codeOrd a
  | .rangeFunc _ _ a b => codeOrd a && codeOrd b
  | _ => true

def fnOrd (P : Program) (f : FuncId) : Bool :=
  match P.funcs[f]? with
  | some fn => match fn.body with
    | some c => codeOrd c
    | none => true
  | none => true

/-- What is given is true. -/
structure Cx.Ok {P : Program} (C : Cx P) : Prop where
  mixed : P.follows .mixedOrders = true
  ord : ∀ f, C.good f = true → fnOrd P f = true
  ext : ∀ f args H v H', C.ext f args H = some (v, H') → AC P f args H fun v' H2 => v' = v ∧ H2 = H'

section
variable {P : Program} {nt : Nat} {ops : Array Oper} {call : Caller}

def CallOk (P : Program) (call : Caller) : Prop := ∀ f args H v H', call f args H = some (v, H') → AC P f args H fun v' H2 => v' = v ∧ H2 = H'

/-- Functions alone: rounds have numbers from 1000000 on. -/
def callN (call : Caller) : Caller := fun f args H => bif Nat.ble f 999999 then call f args H else none
def CallY (P : Program) (call : Caller) : Prop := ∀ r args H v H', call (1000000 + r) args H = some (v, H') → AYld P r args H fun v' H2 => v' = v ∧ H2 = H'
theorem callN_y (call : Caller) (r : Nat) (args : List AV) (H : AH) : callN call (1000000 + r) args H = none := by
  have : Nat.ble (1000000 + r) 999999 = false := by
    cases h : Nat.ble (1000000 + r) 999999 with
    | false => rfl
    | true => have := Nat.le_of_ble_eq_true h; omega
  simp only [callN, this, cond_false]
theorem callN_idem (call : Caller) : callN (callN call) = callN call := by
  funext f args H
  simp only [callN]
  cases Nat.ble f 999999 <;> rfl

theorem runOps_trace (hc : CallOk P call) : ∀ {l : List Oper} {e e' : Env} {H H' : AH} {tr : List Rec}, runOps P call nt ops l e H = some (tr, e', H') → Trace P nt ops l e H tr e' H'
  | [], e, e', H, H', tr, h => by simp [runOps] at h; obtain ⟨rfl, rfl, rfl⟩ := h; exact .nil _ _
  | o :: rest, e, e', H, H', tr, h => by
    simp only [runOps] at h
    split at h
    · cases h
    · rename_i hw
      split at h
      · rename_i tr' x hx
        cases h
        exact .skip hw (runOps_trace hc hx)
      · cases h
    · rename_i hw
      split at h
      case isFalse => cases h
      rename_i hd
      split at h
      · split at h
        case h_1 => cases h
        rename_i f args hf
        split at h
        case h_1 => cases h
        rename_i v H1 hv
        split at h
        case h_2 => cases h
        rename_i tr' x hx
        cases h
        exact .call hw hf hd (hc _ _ _ _ _ hv) (runOps_trace hc hx)
      · split at h
        case h_1 => cases h
        rename_i v H1 hv
        split at h
        case h_2 => cases h
        rename_i tr' x hx
        cases h
        exact .op hw hv hd (runOps_trace hc hx)

theorem AO_of_trace : ∀ {l : List Oper} {e e' : Env} {H H' : AH} {tr : List Rec} {Q : Env → AH → Prop}, Trace P nt ops l e H tr e' H' → Q e' H' → AO P nt ops l e H Q := by
  intro l e e' H H' tr Q h
  induction h with
  | nil => exact fun hq => AO_nil hq
  | op h1 h2 h3 _ ih => exact fun hq => AO_op h1 h2 h3 (ih hq)
  | skip h1 _ ih => exact fun hq => AO_skip h1 (ih hq)
  | skipT h1 _ ih => exact fun hq => AO_skipT h1 (by rw [← putDst_skip]; exact ih hq)
  | call h1 h2 h3 h4 _ ih => exact fun hq => AO_call h1 h2 h3 (h4.mono fun v' H2 ⟨e1, e2⟩ => by subst e1; subst e2; exact ih hq)

theorem eqRes_eq {x : Option (Option AV × AH)} {v : Option AV} (h : eqRes x v = true) : ∃ H, x = some (v, H) := by
  unfold eqRes at h
  split at h
  · rename_i a H b
    rw [eqb_eq h]
    exact ⟨H, rfl⟩
  · cases h

theorem isR_notW {o : Op} (h : isR o = true) : isW o = false := by
  cases o <;> simp [isR] at h <;> rfl

theorem readsB_ok {tr : List Rec} (_hl : tr.length = ops.toList.length) (h : readsB P ops tr = true) : readsOK P ops tr := by
  intro i j o p r s ho hp hr hs hR hW hw h1 h2
  have mem : ∀ (i : Nat) (o : Oper) (r : Rec), ops[i]? = some o → tr[i]? = some r → ((o, r), i) ∈ (ops.toList.zip tr).zipIdx := by
    intro i o r ho hr
    rw [List.mk_mem_zipIdx_iff_getElem?, List.getElem?_zip_eq_some]
    exact ⟨by rw [Array.getElem?_toList]; exact ho, hr⟩
  unfold readsB at h
  simp only [List.all_eq_true, Bool.or_eq_true, Bool.not_eq_true', Bool.and_eq_true] at h
  rcases h _ (mem i o r ho hr) with (h3 | h3) | h3
  · simp only [] at h3; rw [hR] at h3; cases h3
  · simp only [hw] at h3; cases h3
  · rcases h3 _ (mem j p s hp hs) with ((h4 | h4) | h4) | h4
    · simp only [] at h4; rw [hW] at h4; cases h4
    · simp only [] at h4; rw [h1] at h4; cases h4
    · simp only [] at h4; rw [h2] at h4; cases h4
    · obtain ⟨H1, g1⟩ := eqRes_eq h4.1
      obtain ⟨H2, g2⟩ := eqRes_eq h4.2
      have e1 := execN_same (isR_notW hR) g1
      have e2 := execN_same (isR_notW hR) g2
      subst e1; subst e2
      exact ⟨g1, g2⟩

theorem runC_sound (hm : P.follows .mixedOrders = true) (hc : CallOk P call) {ks : List Nat} : ∀ (n : Nat) (c : Code) (e : Env) (H : AH) (x : Ex) (e' : Env) (H' : AH), codeOrd c = true → runC P ks call nt n c e H = some (x, e', H') →
    AW P nt c e H fun x2 e2 H2 => x2 = x ∧ e2 = e' ∧ H2 = H' := by
  intro n
  induction n using Nat.strongRecOn with
  | _ n0 ih0 =>
    intro c e H x e' H' ho h
    cases n0 with
    | zero => simp [runC] at h
    | succ n =>
    have ih := ih0 n (by omega)
    cases c with
    | skip => simp only [runC] at h; cases h; exact AW_skip ⟨rfl, rfl, rfl⟩
    | label l => simp only [runC] at h; cases h; exact AW_label ⟨rfl, rfl, rfl⟩
    | exit l => simp only [runC] at h; cases h; exact AW_exit ⟨rfl, rfl, rfl⟩
    | goto l => simp only [runC] at h; cases h; exact AW_goto ⟨rfl, rfl, rfl⟩
    | ret => simp only [runC] at h; cases h; exact AW_ret ⟨rfl, rfl, rfl⟩
    | rangeFunc => simp [runC] at h
    | scope => simp [runC] at h
    | refuse => simp [runC] at h
    | region id ops draw =>
      simp only [runC] at h
      split at h
      case h_1 => cases h
      rename_i tr e1 H1 hr
      have hT := runOps_trace hc hr
      split at h
      · cases h
      rename_i hd
      cases h
      cases draw with
      | false => exact AW_region ks (AO_of_trace hT ⟨rfl, rfl, rfl⟩)
      | true =>
        simp only [Bool.true_and, Bool.not_eq_true, Bool.not_eq_false'] at hd
        simp only [codeOrd, Bool.not_true, Bool.false_or] at ho
        exact AW_draw hm ks hT ⟨ho, readsB_ok hT.length hd⟩ ⟨rfl, rfl, rfl⟩
    | seq a b =>
      simp only [codeOrd, Bool.and_eq_true] at ho
      simp only [runC] at h
      split at h
      · rename_i e1 H1 h1
        refine AW_seq ((ih a e H _ e1 H1 ho.1 h1).mono ?_)
        rintro x2 e2 H2 ⟨rfl, rfl, rfl⟩
        exact ih b _ _ _ _ _ ho.2 h
      · rename_i hne
        refine AW_seq ((ih a e H x e' H' ho.1 h).mono ?_)
        rintro x2 e2 H2 ⟨rfl, rfl, rfl⟩
        cases x2 with
        | normal => exact absurd h (hne _ _)
        | exit i => exact ⟨rfl, rfl, rfl⟩
        | goto i => exact ⟨rfl, rfl, rfl⟩
        | ret => exact ⟨rfl, rfl, rfl⟩
    | cond y a b =>
      simp only [codeOrd, Bool.and_eq_true] at ho
      simp only [runC] at h
      split at h
      · rename_i hy; exact AW_cond_true hy (ih a e H x e' H' ho.1 h)
      · rename_i hy; exact AW_cond_false hy (ih b e H x e' H' ho.2 h)
      · cases h
    | block i a =>
      simp only [codeOrd] at ho
      simp only [runC] at h
      split at h
      · rename_i j e1 H1 h1
        refine AW_block ((ih a e H _ e1 H1 ho h1).mono ?_)
        rintro x2 e2 H2 ⟨rfl, rfl, rfl⟩
        simp only [Out]
        split at h
        · rename_i hj; cases h; rw [if_pos hj]; exact ⟨rfl, rfl, rfl⟩
        · rename_i hj; cases h; rw [if_neg hj]; exact ⟨rfl, rfl, rfl⟩
      · rename_i hne
        refine AW_block ((ih a e H x e' H' ho h).mono ?_)
        rintro x2 e2 H2 ⟨rfl, rfl, rfl⟩
        cases x2 with
        | normal => exact ⟨rfl, rfl, rfl⟩
        | exit i => exact absurd h (hne _ _ _)
        | goto i => exact ⟨rfl, rfl, rfl⟩
        | ret => exact ⟨rfl, rfl, rfl⟩
    | loop a =>
      have ho' : codeOrd a = true := by simpa only [codeOrd] using ho
      refine AW_loop (fun m e1 H1 => m ≤ n + 1 ∧ runC P ks call nt m (.loop a) e1 H1 = some (x, e', H')) (n + 1) ⟨Nat.le_refl _, h⟩ ?_
      rintro m e1 H1 ⟨hmn, h1⟩
      cases m with
      | zero => simp [runC] at h1
      | succ m =>
        simp only [runC] at h1
        have iha : ∀ x2 e2 H2, runC P ks call nt m a e1 H1 = some (x2, e2, H2) → AW P nt a e1 H1 fun x3 e3 H3 => x3 = x2 ∧ e3 = e2 ∧ H3 = H2 := by
          intro x2 e2 H2 hx
          exact ih0 m (by omega) a e1 H1 x2 e2 H2 ho' hx
        split at h1
        · rename_i e2 H2 h2
          refine (iha _ _ _ h2).mono ?_
          rintro x3 e3 H3 ⟨rfl, rfl, rfl⟩
          exact ⟨m, by omega, by omega, h1⟩
        · rename_i hne
          refine (iha _ _ _ h1).mono ?_
          rintro x3 e3 H3 ⟨rfl, rfl, rfl⟩
          cases x3 with
          | normal => exact absurd h1 (hne _ _)
          | exit i => exact ⟨rfl, rfl, rfl⟩
          | goto i => exact ⟨rfl, rfl, rfl⟩
          | ret => exact ⟨rfl, rfl, rfl⟩

theorem prefB_ok {H H' : AH} (h : prefB H.length H' = true) : PrefOk H H' := by
  simp only [prefB, Bool.and_eq_true, decide_eq_true_eq, List.all_eq_true] at h
  refine ⟨h.1, fun r o hr ho => .inr (.of_B (h.2 o ?_))⟩
  refine List.mem_of_getElem? (i := r) ?_
  rw [List.getElem?_take_of_lt hr]; exact ho

theorem runF_sound {C : Cx P} (hC : C.Ok) : ∀ n, CallOk P (runF C n) := by
  intro n
  induction n with
  | zero => intro f args H v H' h; simp [runF] at h
  | succ n ih =>
    intro f args H v H' h
    simp only [runF] at h
    split at h
    · rename_i r hr
      cases h
      exact hC.ext _ _ _ _ _ hr
    · split at h
      case isFalse => cases h
      rename_i hg
      split at h
      case h_1 => cases h
      rename_i fn hf
      split at h
      case h_1 => cases h
      rename_i c hb
      have ho : codeOrd c = true := by
        have := hC.ord f hg
        simpa only [fnOrd, hf, hb] using this
      have fin : ∀ {x : Ex} {e1 : Env} {H1 : AH} {v1 : AV}, runC P (C.keep f) (runF C n) (max args.length fn.ntmps) n c (argsEnv 0 args) H = some (x, e1, H1) → (x = .normal ∨ x = .ret) →
          aResults P fn e1 H1 = some v1 → (if prefB H.length H1 then some (finish H.length H1 v1) else some (v1, H1)) = some (v, H') → AC P f args H fun v' H2 => v' = v ∧ H2 = H' := by
        intro x e1 H1 v1 hrun hx hres hfin
        have hW := runC_sound (P := P) hC.mixed ih n c _ _ _ _ _ ho hrun
        split at hfin
        · rename_i hp
          have hfin' : finish H.length H1 v1 = (v, H') := by simpa using hfin
          refine AC_fin (AC_of_body hf hb rfl (hW.mono ?_))
          rintro x2 e2 H2 ⟨rfl, rfl, rfl⟩
          exact ⟨hx, v1, hres, prefB_ok hp, by rw [hfin'], by rw [hfin']⟩
        · cases hfin
          refine AC_of_body hf hb rfl (hW.mono ?_)
          rintro x2 e2 H2 ⟨rfl, rfl, rfl⟩
          exact ⟨hx, _, hres, rfl, rfl⟩
      split at h
      · rename_i e1 H1 hrun
        split at h
        · rename_i v1 hres; exact fin hrun (.inl rfl) hres h
        · cases h
      · rename_i e1 H1 hrun
        split at h
        · rename_i v1 hres; exact fin hrun (.inr rfl) hres h
        · cases h
      · cases h

theorem AC_run {C : Cx P} (hC : C.Ok) (n : Nat) {f : FuncId} {args : List AV} {H : AH} {v : AV} {H' : AH} (h : runF C n f args H = some (v, H')) : AC P f args H fun v' H2 => v' = v ∧ H2 = H' :=
  runF_sound hC n f args H v H' h
end
end Go.Proofs.Ytbimapbcpmeooaa.AX

/- A plain reading of runs: what is kept between statements. -/
namespace Go.Proofs.Ytbimapbcpmeooaa.AX
open Go Go.RowKit

def insN (x : Nat) : List Nat → List Nat
  | [] => [x]
  | y :: l => if x < y then x :: y :: l else if x = y then y :: l else y :: insN x l

def opTmps (o : Op) : List Nat := o.operands.toList.filterMap fun | .tmp t => some t | _ => none

/-- The temporaries that a statement reads before it writes them. -/
def regionUp : List Oper → List Nat → List Nat → List Nat
  | [], _, acc => acc
  | o :: l, d, acc =>
    regionUp l (match o.dst with | some t => t :: d | none => d) ((opTmps o.op).foldl (fun a t => if d.contains t then a else insN t a) acc)

def keepCode : Code → List Nat → List Nat
  | .region _ ops _, acc => regionUp ops.toList [] acc
  | .seq a b, acc => keepCode b (keepCode a acc)
  | .cond x a b, acc => keepCode b (keepCode a (match x with | .tmp t => insN t acc | _ => acc))
  | .block _ a, acc => keepCode a acc
  | .loop a, acc => keepCode a acc
  | .scope a, acc => keepCode a acc
  | .rangeFunc x _ a b, acc => keepCode b (keepCode a (match x with | .tmp t => insN t acc | _ => acc))
  | _, acc => acc

def keepFn (fn : Func) : List Nat :=
  match fn.body with
  | none => []
  | some c => keepCode c (fn.results.toList.foldl (fun a r => match r with | .tmp t => insN t a | .cell t _ => insN t a) [])

end Go.Proofs.Ytbimapbcpmeooaa.AX

/- A plain reading of runs: from a statement about rows to the call itself. -/
namespace Go.Proofs.Ytbimapbcpmeooaa.AX
open Go Go.RowKit

def Inj.empty : Inj := ⟨fun _ => 0, fun _ => none, fun _ => 0, fun _ => none, fun _ => 0, fun _ => none⟩

theorem Sim.empty (w : World) : Sim w.heap.size w .empty [] w :=
  ⟨.refl _ _, Nat.le_refl _, fun b r d n h => by simp [Inj.empty] at h, fun r b h => by simp [Inj.empty] at h, fun r c v s o h => by simp at h, fun r l h => by simp at h, fun r g c h => by simp at h, fun r s pe L h => by simp at h, fun b k h => by simp [Inj.empty] at h, fun r r' b h => by simp [Inj.empty] at h, fun r s pos h => by simp at h⟩

section
variable {P : Program}

/-- A call without rows. -/
theorem AC.calls {f : FuncId} {args : List AV} {cargs : Array Value} {v : AV} {c : Value} {Q : AV → AH → Prop} (h : AC P f args [] Q) (hr : RelVs .empty args cargs.toList) (hv : ∀ v' H', Q v' H' → v' = v) (hc : ∀ σ x, RelV σ v x → x = c) (w : World) :
    Calls P f cargs w fun e w' => e = .returned c ∧ Below w.heap.size w w' := by
  refine (h w.heap.size w .empty w cargs (.empty w) hr).mono ?_
  rintro en w' ⟨c', σ', v', H', rfl, _, h3, h4, h5⟩
  have := hv _ _ h5
  subst this
  exact ⟨by rw [hc _ _ h4], h3.below⟩

theorem relV_bool {σ : Inj} {b : Bool} {x : Value} (h : RelV σ (.bool b) x) : x = .bool b := by cases h; rfl

/-- Package variables alone. -/
def gRows (gs : List (Nat × List AV)) : AH := gs.map fun x => .gvar x.1 x.2
def HasG (gs : List (Nat × List AV)) (H : AH) : Prop := ∀ x ∈ gs, gfind H x.1 = some x.2 ∧ Bels 0 x.2

/-- What holds over package variables alone holds over all rows beside them. -/
theorem AC.closedG {gs : List (Nat × List AV)} {f : FuncId} {args : List AV} {v : AV} (h : AC P f args (gRows gs) fun v' H' => v' = v ∧ H' = gRows gs) (ha : Bels 0 args) (hv : Bel 0 v) (H : AH) (hg : HasG gs H) : AC P f args H fun v' H' => v' = v ∧ H' = H := by
  intro base w0 σ w cargs S hr
  have hsame : ∀ {τ τ' : Inj}, τ.same 0 τ' := fun {τ τ'} => ⟨fun b r d n h => by omega, fun r h => by omega, fun r h => by omega, fun r h => by omega, fun r b h => by omega⟩
  have hempty : ∀ {vs cs}, RelVs σ vs cs → Bels 0 vs → RelVs .empty vs cs := fun h1 h2 => h1.cut hsame h2
  have hrow : ∀ (r : Nat) (o : AObj), (gRows gs)[r]? = some o → ∃ x ∈ gs, o = AObj.gvar x.1 x.2 := by
    intro r o ho
    simp only [gRows, List.getElem?_map, Option.map_eq_some_iff] at ho
    obtain ⟨x, hx, rfl⟩ := ho
    exact ⟨x, List.mem_of_getElem? hx, rfl⟩
  have S1 : Sim w.heap.size w .empty (gRows gs) w := by
    refine ⟨.refl _ _, Nat.le_refl _, fun b r d n h => by simp [Inj.empty] at h, fun r b h => by simp [Inj.empty] at h, fun r c v s o h => ?_, fun r l h => ?_, fun r g c h => ?_, fun r s pe L h => ?_, fun b k h => by simp [Inj.empty] at h, fun r r' b h => by simp [Inj.empty] at h, fun r s pos h => ?_⟩
    · obtain ⟨x, -, e⟩ := hrow _ _ h; cases e
    · obtain ⟨x, -, e⟩ := hrow _ _ h; cases e
    · obtain ⟨x, hx, e⟩ := hrow _ _ h
      cases e
      obtain ⟨h1, h2⟩ := hg x hx
      obtain ⟨r', hr'⟩ := gfind_mem h1
      obtain ⟨g1, C, e, fz, g2, g3⟩ := S.gvars _ _ _ hr'
      exact ⟨by have := S.size; omega, C, e, fz, by rw [S.below.block _ g1]; exact g2, hempty g3 h2⟩
    · obtain ⟨x, -, e⟩ := hrow _ _ h; cases e
    · obtain ⟨x, -, e⟩ := hrow _ _ h; cases e
  refine (h w.heap.size w .empty w cargs S1 (hempty hr ha)).mono ?_
  rintro en w' ⟨c', σ', v', H', rfl, _, h3, h4, rfl, rfl⟩
  have hB := h3.below
  have hsz : w.heap.size ≤ w'.heap.size := hB.size
  have hblk : ∀ b, b < w.heap.size → w'.heap[b]? = w.heap[b]? := fun b hb => hB.block b hb
  refine ⟨c', σ, v', H, rfl, .refl σ, ?_, ?_, rfl, rfl⟩
  · refine ⟨S.below.trans (hB.mono S.size), Nat.le_trans S.size hsz, fun b r d n h => ?_, fun r b h => ?_, ?_, ?_, S.gvars,
      S.loops_of (.refl σ) (fun k o hk _ => by rw [hblk k (Array.getElem?_eq_some_iff.1 hk).1]; exact hk) (fun _ _ _ _ h => h), S.oths_of (fun _ _ h => h) (fun k o hk _ => by rw [hblk k (Array.getElem?_eq_some_iff.1 hk).1]; exact hk), S.minj, S.iters_of (.refl σ) (fun k o hk _ => by rw [hblk k (Array.getElem?_eq_some_iff.1 hk).1]; exact hk) (fun _ _ _ h => h)⟩
    · have := S.lt b r d n h; exact ⟨this.1, by omega⟩
    · have := S.mlt r b h; exact ⟨this.1, by omega⟩
    · intro r cells ver stale ro hrow
      have R := S.rows _ _ _ _ _ hrow
      have hcell : ∀ b k, b < w.heap.size → w'.cell? ⟨b, k, none⟩ = w.cell? ⟨b, k, none⟩ := fun b k hb => World.cell?_of_block (w := w) (hblk b hb)
      refine ⟨R.ver, R.fin, ?_, ?_⟩
      · obtain ⟨d, n, hf, hc⟩ := R.new
        exact ⟨d, n, hf, fun p v hp => (hc p v hp).mono (.refl σ) (fun k _ => hcell _ _ (S.lt _ _ _ _ hf).2)⟩
      · intro b d n hf
        obtain ⟨g1, ⟨c, e, fz, g2, g3⟩, g4⟩ := R.all b d n hf
        have hb := (S.lt _ _ _ _ hf).2
        exact ⟨g1, ⟨c, e, fz, by rw [hblk _ hb]; exact g2, g3⟩, fun p v hp hv => (g4 p v hp hv).mono (.refl σ) (fun k _ => hcell _ _ hb)⟩
    · intro r l hm
      obtain ⟨b, es, clock, g1, g2, g3, g4⟩ := (S.maps _ _ hm).at_
      exact ⟨b, es, clock, g1, g2, by rw [hblk _ (S.mlt _ _ g1).2]; exact g3, g4⟩
  · exact h4.cut hsame hv

/-- What turns nothing that was there leaves all rows as they were. -/
theorem Sim.stay {base : Nat} {w0 w w' : World} {σ : Inj} {H : AH} (S : Sim base w0 σ H w) (hB : Below w.heap.size w w') : Sim base w0 σ H w' := by
  have hsz : w.heap.size ≤ w'.heap.size := hB.size
  have hblk : ∀ b, b < w.heap.size → w'.heap[b]? = w.heap[b]? := fun b hb => hB.block b hb
  have hk : ∀ (k : Nat) (o : Obj), w.heap[k]? = some o → o.isCells = false → w'.heap[k]? = some o := fun k o hk _ => by rw [hblk k (Array.getElem?_eq_some_iff.1 hk).1]; exact hk
  refine ⟨S.below.trans (hB.mono S.size), Nat.le_trans S.size hsz, fun b r d n h => ?_, fun r b h => ?_, ?_, ?_, S.gvars,
      S.loops_of (.refl σ) hk (fun _ _ _ _ h => h), S.oths_of (fun _ _ h => h) hk, S.minj, S.iters_of (.refl σ) hk (fun _ _ _ h => h)⟩
  · have := S.lt b r d n h; exact ⟨this.1, by omega⟩
  · have := S.mlt r b h; exact ⟨this.1, by omega⟩
  · intro r cells ver stale ro hrow
    have R := S.rows _ _ _ _ _ hrow
    have hcell : ∀ b k, b < w.heap.size → w'.cell? ⟨b, k, none⟩ = w.cell? ⟨b, k, none⟩ := fun b k hb => World.cell?_of_block (w := w) (hblk b hb)
    refine ⟨R.ver, R.fin, ?_, ?_⟩
    · obtain ⟨d, n, hf, hc⟩ := R.new
      exact ⟨d, n, hf, fun p v hp => (hc p v hp).mono (.refl σ) (fun k _ => hcell _ _ (S.lt _ _ _ _ hf).2)⟩
    · intro b d n hf
      obtain ⟨g1, ⟨c, e, fz, g2, g3⟩, g4⟩ := R.all b d n hf
      have hb := (S.lt _ _ _ _ hf).2
      exact ⟨g1, ⟨c, e, fz, by rw [hblk _ hb]; exact g2, g3⟩, fun p v hp hv => (g4 p v hp hv).mono (.refl σ) (fun k _ => hcell _ _ hb)⟩
  · intro r l hm
    obtain ⟨b, es, clock, g1, g2, g3, g4⟩ := (S.maps _ _ hm).at_
    exact ⟨b, es, clock, g1, g2, by rw [hblk _ (S.mlt _ _ g1).2]; exact g3, g4⟩

/-- A call of which the library tells what it returns. -/
theorem AC.ofBelow {f : FuncId} {args : List AV} {cargs : Array Value} {v : AV} {c : Value} (h : ∀ w, Calls P f cargs w fun e w' => e = .returned c ∧ Below w.heap.size w w') (ha : ∀ σ cs, RelVs σ args cs → cs = cargs.toList) (hv : ∀ σ, RelV σ v c) (H : AH) :
    AC P f args H fun v' H' => v' = v ∧ H' = H := fun base w0 σ w cs S hr => by
  have e : cs = cargs := by rw [← Array.toList_inj]; exact ha _ _ hr
  subst e
  refine (h w).mono ?_
  rintro en w' ⟨rfl, hB⟩
  exact ⟨c, σ, v, H, rfl, .refl σ, S.stay hB, hv σ, rfl, rfl⟩
/-- The same, where one of the library's variables, a number, is read. -/
theorem AC.ofBelowG {f : FuncId} {args : List AV} {cargs : Array Value} {v : AV} {c : Value} {g : Nat} {m : Int} {H : AH} (hg : gfind H g = some [.int .i64 m])
    (h : ∀ w, w.cell? ⟨g, 0, none⟩ = some (.int .i64 m) → Calls P f cargs w fun e w' => e = .returned c ∧ Below w.heap.size w w') (ha : ∀ σ cs, RelVs σ args cs → cs = cargs.toList) (hv : ∀ σ, RelV σ v c) :
    AC P f args H fun v' H' => v' = v ∧ H' = H := fun base w0 σ w cs S hr => by
  have e : cs = cargs := by rw [← Array.toList_inj]; exact ha _ _ hr
  subst e
  obtain ⟨r, hr'⟩ := gfind_mem hg
  obtain ⟨hlt, C, et, fz, hw0, hrel⟩ := S.gvars _ _ _ hr'
  have hw : w.heap[g]? = some (.cells C et fz) := by rw [S.below.block _ hlt]; exact hw0
  have hc : w.cell? ⟨g, 0, none⟩ = some (.int .i64 m) := by
    rw [cell_of hw]
    have hl : C.toList = [Value.int .i64 m] := by
      generalize C.toList = l at hrel
      cases hrel with
      | cons h1 h2 => cases h1; cases h2; rfl
    rw [← Array.getElem?_toList, hl]; rfl
  refine (h w hc).mono ?_
  rintro en w' ⟨rfl, hB⟩
  exact ⟨c, σ, v, H, rfl, .refl σ, S.stay hB, hv σ, rfl, rfl⟩
theorem relVs_str1 {σ : Inj} {s : List UInt8} {rest : List AV} {cs : List Value} (h : RelVs σ (.str s :: rest) cs) : ∃ cs', cs = .string ⟨s.toArray⟩ :: cs' ∧ RelVs σ rest cs' := by
  cases h with
  | cons h1 h2 => cases h1; exact ⟨_, rfl, h2⟩
theorem relVs_int1 {σ : Inj} {k : IntKind} {n : Int} {rest : List AV} {cs : List Value} (h : RelVs σ (.int k n :: rest) cs) : ∃ cs', cs = .int k n :: cs' ∧ RelVs σ rest cs' := by
  cases h with
  | cons h1 h2 => cases h1; exact ⟨_, rfl, h2⟩
theorem relVs_nil1 {σ : Inj} {cs : List Value} (h : RelVs σ [] cs) : cs = [] := by cases h; rfl

/-- What holds over no rows holds over all. -/
theorem AC.closed {f : FuncId} {args : List AV} {v : AV} (h : AC P f args [] fun v' H' => v' = v ∧ H' = []) (ha : Bels 0 args) (hv : Bel 0 v) (H : AH) : AC P f args H fun v' H' => v' = v ∧ H' = H :=
  AC.closedG (gs := []) h ha hv H (fun x hx => by simp at hx)
end
end Go.Proofs.Ytbimapbcpmeooaa.AX
