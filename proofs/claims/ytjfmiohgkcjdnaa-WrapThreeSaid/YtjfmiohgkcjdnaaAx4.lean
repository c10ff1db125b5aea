/- A plain reading of runs: maps that the call makes. -/
import Derived.Test.YtjfmiohgkcjdnaaAxG
import Derived.MapKept
namespace Go.Proofs.Ytjfmiohgkcjdnaa.AX
open Go Go.RowKit

/-- A value that may be a key of the type. -/
def keyOkA : TypeDesc → AV → Bool
  | .bool, .bool _ => true
  | .int k, .int k' _ => decide (k' = k)
  | .string, .str _ => true
  | _, _ => false
def sameKeyA : TypeDesc → AV → AV → Option Bool
  | .int _, .int k a, .int k' b => if k = k' then some (a == b) else none
  | .string, .str a, .str b => some (a == b)
  | .bool, .bool a, .bool b => some (a == b)
  | _, _, _ => none
def mfind (d : TypeDesc) (x : AV) : List (AV × AV) → Option (Option AV)
  | [] => some none
  | (k, v) :: l => match sameKeyA d x k with
    | some true => some (some v)
    | some false => mfind d x l
    | none => none
def mput (d : TypeDesc) (x v : AV) : List (AV × AV) → Option (List (AV × AV))
  | [] => some [(x, v)]
  | (k, u) :: l => match sameKeyA d x k with
    | some true => some ((x, v) :: l)
    | some false => (mput d x v l).map ((k, u) :: ·)
    | none => none

/-- A map's type: its keys' type, and the value of a key that is not there. -/
def mapT (P : Program) (t : TypeId) : Option (TypeDesc × AV) :=
  match P.underlying t with
  | some (.map kt et) =>
    match P.underlying kt, (P.info? et).bind (·.zero) with
    | some d, some z => some (d, absV 3 z)
    | _, _ => none
  | _ => none
def lookV (ok : Bool) (v : AV) (b : Bool) : AV := if ok then .tuple [v, .bool b] else v
def mrow (H : AH) (r : Nat) : Option (List (AV × AV)) := match H[r]? with
  | some (.map es) => some es
  | _ => none
def aLook (P : Program) (H : AH) (t : TypeId) (m x : AV) (ok : Bool) : Option AV :=
  match mapT P t with
  | some (d, z) => if keyOkA d x then
      match m with
      | .nilmap => some (lookV ok z false)
      | .map r => (mrow H r).bind fun es => (mfind d x es).map fun u => match u with
        | some v => lookV ok v true
        | none => lookV ok z false
      | _ => none
    else none
  | none => none
def aMapMake (P : Program) (t : TypeId) (r : Option AV) (H : AH) : Option (Option AV × AH) :=
  if (mapT P t).isSome then
    match r with
    | none => some (some (.map H.length), H ++ [.map []])
    | some (.int _ _) => some (some (.map H.length), H ++ [.map []])
    | _ => none
  else none
def aMapPut (P : Program) (H : AH) (t : TypeId) (m x v : AV) : Option AH :=
  match mapT P t, m with
  | some (d, _), .map r => if keyOkA d x then (mrow H r).bind fun es => (mput d x v es).map fun es' => H.set r (.map es') else none
  | _, _ => none
def aMapLen (H : AH) : AV → Option AV
  | .map r => (mrow H r).map fun es => .int .i64 es.length
  | _ => none

section
variable {P : Program} {base : Nat} {w0 w : World} {σ : Inj} {H : AH}

theorem mapT_some {t : TypeId} {d : TypeDesc} {z : AV} (h : mapT P t = some (d, z)) : ∃ kt et c, P.underlying t = some (.map kt et) ∧ P.underlying kt = some d ∧ (∀ w, (zeroValue et).run P w = .ok c w) ∧ ∀ σ, RelV σ z c := by
  unfold mapT at h
  split at h
  case h_2 => cases h
  rename_i kt et hu
  split at h
  case h_2 => cases h
  rename_i d' z' hk hz
  cases h
  obtain ⟨i, hi, hz⟩ := Option.bind_eq_some_iff.1 hz
  exact ⟨kt, et, z', hu, hk, fun w => by simp [zeroValue, typeInfo, hi, hz], fun σ => relV_absV σ 3 z'⟩

theorem keyOkA_key {d : TypeDesc} {x : AV} {c : Value} (h : keyOkA d x = true) (hx : RelV σ x c) : MapKept.IsKey d c := by
  unfold keyOkA at h
  split at h
  · cases hx; trivial
  · cases hx; simpa [MapKept.IsKey] using h
  · cases hx; trivial
  · cases h

theorem bytes_eq_list (a b : ByteArray) : (a == b) = (a.data.toList == b.data.toList) := by
  rw [Bool.eq_iff_iff]
  constructor
  · intro h
    have : a.data = b.data := by
      have h : (a.data == b.data) = true := h
      exact eq_of_beq h
    rw [this]; exact beq_self_eq_true _
  · intro h
    have h1 : a.data = b.data := Array.toList_inj.1 (eq_of_beq h)
    show (a.data == b.data) = true
    rw [h1]; exact beq_self_eq_true _

theorem sameKeyA_sound {d : TypeDesc} {x k : AV} {c ck : Value} {b : Bool} (h : sameKeyA d x k = some b) (hx : RelV σ x c) (hk : RelV σ k ck) : Instr.sameNow d c ck = some b ∧ (b = true → ck = c) := by
  unfold sameKeyA at h
  split at h
  · cases hx; cases hk
    split at h
    · rename_i e; subst e; cases h
      refine ⟨by simp [Instr.sameNow], fun hb => ?_⟩
      have : _ = _ := eq_of_beq hb
      rw [this]
    · cases h
  · cases hx; cases hk; cases h
    rename_i s1 s2
    refine ⟨by simp [Instr.sameNow, bytes_eq_list], fun hb => ?_⟩
    have h1 := eq_of_beq hb
    cases s1; cases s2
    simp only [Value.string.injEq, ByteArray.mk.injEq]
    exact Array.toList_inj.1 h1.symm
  · cases hx; cases hk; cases h
    refine ⟨by simp [Instr.sameNow], fun hb => ?_⟩
    have : _ = _ := eq_of_beq hb
    rw [this]
  · cases h

theorem mfind_sound {d : TypeDesc} {x : AV} {c : Value} (hx : RelV σ x c) : ∀ {l : List (AV × AV)} {es : List MapEntry} {r : Option AV} (i : Nat), mfind d x l = some r → RelEs σ l es →
    ∃ r', Instr.findNow d c es i = some r' ∧ match r, r' with
      | some v, some (_, u) => RelV σ v u
      | none, none => True
      | _, _ => False
  | [], [], r, i, h, _ => by simp [mfind] at h; subst h; exact ⟨none, rfl, trivial⟩
  | [], _ :: _, _, _, _, h => h.elim
  | _ :: _, [], _, _, _, h => h.elim
  | (k, v) :: l, e :: es, r, i, h, hr => by
    obtain ⟨h1, h2, h3⟩ := hr
    simp only [mfind] at h
    split at h
    · rename_i hs; cases h
      exact ⟨some (i, e.val), by simp [Instr.findNow, (sameKeyA_sound hs hx h1).1], h2⟩
    · rename_i hs
      obtain ⟨r', g1, g2⟩ := mfind_sound hx (i + 1) h h3
      exact ⟨r', by simp [Instr.findNow, (sameKeyA_sound hs hx h1).1, g1], g2⟩
    · cases h

theorem mput_sound {d : TypeDesc} {x v : AV} {c u : Value} {clock : Nat} (hx : RelV σ x c) (hv : RelV σ v u) : ∀ {l l' : List (AV × AV)} {es : List MapEntry} (i : Nat), mput d x v l = some l' → RelEs σ l es →
    (Instr.findNow d c es i = some none ∧ RelEs σ l' (es ++ [{ key := c, val := u, born := clock }])) ∨
    ∃ j e, Instr.findNow d c es i = some (some (i + j, e.val)) ∧ es[j]? = some e ∧ e.key = c ∧ RelEs σ l' (es.modify j fun e => { e with key := c, val := u })
  | [], l', [], i, h, _ => by simp [mput] at h; subst h; exact .inl ⟨rfl, hx, hv, trivial⟩
  | [], _, _ :: _, _, _, h => h.elim
  | _ :: _, _, [], _, _, h => h.elim
  | (k, w) :: l, l', e :: es, i, h, hr => by
    obtain ⟨h1, h2, h3⟩ := hr
    simp only [mput] at h
    split at h
    · rename_i hs; cases h
      obtain ⟨q1, q2⟩ := sameKeyA_sound hs hx h1
      exact .inr ⟨0, e, by simp [Instr.findNow, q1], rfl, q2 rfl, hx, hv, h3⟩
    · rename_i hs
      obtain ⟨l2, g, rfl⟩ := Option.map_eq_some_iff.1 h
      have q1 := (sameKeyA_sound hs hx h1).1
      rcases mput_sound (clock := clock) hx hv (i + 1) g h3 with ⟨a1, a2⟩ | ⟨j, e', a1, a2, a3, a4⟩
      · exact .inl ⟨by simp [Instr.findNow, q1, a1], h1, h2, a2⟩
      · exact .inr ⟨j + 1, e', by simp [Instr.findNow, q1, a1]; omega, by simpa using a2, a3, by simpa [List.modify_succ_cons] using ⟨h1, h2, a4⟩⟩
    · cases h

theorem mrow_some {r : Nat} {es : List (AV × AV)} (h : mrow H r = some es) : H[r]? = some (.map es) := by
  unfold mrow at h
  split at h
  · rename_i hh; cases h; exact hh
  · cases h

theorem aLook_sound (S : Sim base w0 σ H w) {t : TypeId} {m x v : AV} {a c : Value} {ok : Bool} (h : aLook P H t m x ok = some v) (hm : RelV σ m a) (hx : RelV σ x c) :
    ∃ u, RelV σ v u ∧ (Instr.lookup t a c ok).run P w = .ok u w := by
  unfold aLook at h
  split at h
  case h_2 => cases h
  rename_i d z ht
  obtain ⟨kt, et, zc, hu, hk, hz, hzr⟩ := mapT_some ht
  split at h
  case isFalse => cases h
  rename_i hok
  have hkey := keyOkA_key hok hx
  have hlook : ∀ {v : AV} {u : Value} (b : Bool), RelV σ v u → RelV σ (lookV ok v b) (if ok = true then .tuple #[u, .bool b] else u) := by
    intro v u b hv
    unfold lookV
    split
    · exact .tuple (.cons hv (.cons (.bool _) .nil))
    · exact hv
  split at h
  · cases h; cases hm
    refine ⟨_, hlook false (hzr σ), ?_⟩
    have hf : Instr.findNow d c [] 0 = some none := rfl
    simp [Instr.lookup, run_underlying hu, MapKept.run_checkKey hk hkey, MapKept.run_findKey hk hf, hz]
  · rename_i r
    obtain ⟨l, hl, h⟩ := Option.bind_eq_some_iff.1 h
    obtain ⟨q, hq, rfl⟩ := Option.map_eq_some_iff.1 h
    obtain ⟨b, es, clock, g1, g2, g3, g4⟩ := (S.maps r l (mrow_some hl)).at_
    cases hm with
    | map hmb =>
    rw [g1] at hmb; cases hmb
    obtain ⟨r', f1, f2⟩ := mfind_sound hx 0 hq g4
    have hrun : (Instr.findKey kt c es.toList).run P w = .ok r' w := MapKept.run_findKey hk f1
    cases q with
    | none =>
      cases r' with
      | some y => exact f2.elim
      | none =>
        refine ⟨_, hlook false (hzr σ), ?_⟩
        simp [Instr.lookup, run_underlying hu, MapKept.run_getObj_map g3, MapKept.run_checkKey hk hkey, hrun, hz]
    | some v =>
      cases r' with
      | none => exact f2.elim
      | some y =>
        refine ⟨_, hlook true f2, ?_⟩
        simp [Instr.lookup, run_underlying hu, MapKept.run_getObj_map g3, MapKept.run_checkKey hk hkey, hrun]
  · cases h

/-! ### A new map -/
def Inj.addMap (σ : Inj) (r b : Nat) : Inj := { σ with mapAt := fun x => if x = r then some b else σ.mapAt x }
theorem Sim.newMap (S : Sim base w0 σ H w) : σ.le (σ.addMap H.length w.heap.size) ∧ Sim base w0 (σ.addMap H.length w.heap.size) (H ++ [.map []]) (w.alloc (.map #[] 0)) := by
  have hle : σ.le (σ.addMap H.length w.heap.size) := by
    refine ⟨fun b r d n h => ⟨h, Nat.le_refl _, fun _ => rfl⟩, fun _ _ _ _ _ _ => rfl, fun r b h => ?_, fun b k h => h⟩
    have := (S.mlt r b h).1
    simp only [Inj.addMap]
    rw [if_neg (by omega)]
    exact h
  have hk := (KeepsOthers.alloc w (.map #[] 0)).same
  have hold : ∀ b, b < w.heap.size → (w.alloc (.map #[] 0)).heap[b]? = w.heap[b]? := fun b hb => Below.heap_alloc _ _ _ hb
  have hsz : (w.alloc (.map #[] 0)).heap.size = w.heap.size + 1 := by simp
  have hS := S.size
  have hget : ∀ (q : Nat) (o : AObj), (H ++ [AObj.map []])[q]? = some o → (q = H.length ∧ o = .map []) ∨ (q < H.length ∧ H[q]? = some o) := by
    intro q o h
    rcases Nat.lt_or_ge q H.length with hq | hq
    · rw [List.getElem?_append_left hq] at h; exact .inr ⟨hq, h⟩
    · rw [List.getElem?_append_right hq] at h
      rcases Nat.lt_or_ge (q - H.length) 1 with h1 | h1
      · have e : q - H.length = 0 := by omega
        rw [e] at h; simp at h
        exact .inl ⟨by omega, h.symm⟩
      · rw [List.getElem?_eq_none (by simpa using h1)] at h; cases h
  refine ⟨hle, S.below.alloc S.size _, by omega, fun b r d n h => ?_, fun r b h => ?_, fun r c v s ro h => ?_, fun r l h => ?_, fun r g c h => ?_, fun r s pe L2 h => ?_, fun b k h => ?_, fun r r' b h h' => ?_⟩
  · have := S.lt b r d n h; rw [List.length_append]; exact ⟨by omega, by omega⟩
  · rw [List.length_append]
    simp only [Inj.addMap] at h
    split at h
    · rename_i e; cases h; simp; omega
    · have := S.mlt r b h; exact ⟨by omega, by omega⟩
  · rcases hget _ _ h with ⟨-, e⟩ | ⟨-, h⟩
    · cases e
    have R := S.rows r c v s ro h
    refine ⟨R.ver, R.fin, ?_, fun b d n hf => ?_⟩
    · obtain ⟨d, n, h1, h2⟩ := R.new
      exact ⟨d, n, h1, fun p u hp => (h2 p u hp).mono hle (fun k _ => World.cell?_of_block (w := w) (hold _ (S.lt _ _ _ _ h1).2))⟩
    · obtain ⟨g0, ⟨c1, e1, f1, g1, g2, g3⟩, g4⟩ := R.all b d n hf
      have hb := (S.lt _ _ _ _ hf).2
      exact ⟨g0, ⟨c1, e1, f1, by rw [hold _ hb]; exact g1, g2, g3⟩, fun p u hp hu => (g4 p u hp hu).mono hle (fun k _ => World.cell?_of_block (w := w) (hold _ hb))⟩
  · rcases hget _ _ h with ⟨rfl, e⟩ | ⟨-, h⟩
    · cases e
      exact ⟨w.heap.size, #[], 0, by simp [Inj.addMap], S.size, World.alloc_heap_new _ _, trivial⟩
    obtain ⟨b, es, clock, g1, g2, g3, g4⟩ := (S.maps r l h).at_
    exact ⟨b, es, clock, hle.map _ _ g1, g2, by rw [hold _ (S.mlt _ _ g1).2]; exact g3, g4.mono hle⟩
  · rcases hget _ _ h with ⟨-, e⟩ | ⟨-, h⟩
    · cases e
    · exact (S.gvars r g c h).mono hle
  · rcases hget _ _ h with ⟨-, e⟩ | ⟨-, h⟩
    · cases e
    · exact (S.loops _ _ _ _ h).mono hle hk
  · exact ⟨(S.oths b k h).1, (S.oths b k h).2.mono hk⟩
  · simp only [Inj.addMap] at h h'
    split at h
    · rename_i e
      cases h
      split at h'
      · rename_i e'; rw [e, e']
      · have := (S.mlt _ _ h').2; omega
    · split at h'
      · cases h'
        have := (S.mlt _ _ h).2; omega
      · exact S.minj _ _ _ h h'

/-- A map's entries turn. -/
theorem Sim.setMap (S : Sim base w0 σ H w) {r b : Nat} {l l' : List (AV × AV)} {es es' : Array MapEntry} {clock clock' : Nat} (hr : H[r]? = some (.map l)) (hb : σ.mapAt r = some b) (hbase : base ≤ b) (hh : w.heap[b]? = some (.map es clock)) (hE : RelEs σ l' es'.toList) :
    Sim base w0 σ (H.set r (.map l')) (w.putObj b (.map es' clock')) := by
  have hlt := (Array.getElem?_eq_some_iff.1 hh).1
  have hrl := (List.getElem?_eq_some_iff.1 hr).1
  have hset : ∀ (q : Nat) (o : AObj), (H.set r (.map l'))[q]? = some o → (q = r ∧ o = .map l') ∨ (q ≠ r ∧ H[q]? = some o) := by
    intro q o h
    rw [List.getElem?_set] at h
    split at h
    · rename_i e; subst e; simp [hrl] at h; exact .inl ⟨rfl, h.symm⟩
    · rename_i hne; exact .inr ⟨fun e => hne e.symm, h⟩
  have hne : ∀ {k : Nat} {c : Array Value} {e : TypeId} {fz : Nat × Nat}, w.heap[k]? = some (.cells c e fz) → k ≠ b := by
    rintro k c e fz hk rfl
    rw [hh] at hk; cases hk
  have hother : ∀ {k : Nat} {o : Obj}, k ≠ b → (w.putObj b o).heap[k]? = w.heap[k]? := fun h => World.putObj_heap_other h
  have hcell : ∀ {k : Nat} (o : Obj), k ≠ b → ∀ q : Nat, (w.putObj b o).cell? ⟨k, q, none⟩ = w.cell? ⟨k, q, none⟩ := fun o h q => World.cell?_of_block (w := w) (World.putObj_heap_other h)
  refine ⟨S.below.trans ⟨rfl, rfl, rfl, by simp, fun k hk => World.putObj_heap_other (by omega)⟩, by rw [World.putObj_size]; exact S.size, fun k r d n h => ?_, fun r k h => ?_, fun r2 c v s ro h => ?_, fun r2 l2 h => ?_, fun r2 g c h => ?_, fun r2 s pe L h => ?_, fun k x h => ?_, S.minj⟩
  · rw [World.putObj_size, List.length_set]; exact S.lt k r d n h
  · rw [World.putObj_size, List.length_set]; exact S.mlt r k h
  · rcases hset _ _ h with ⟨-, e⟩ | ⟨-, h⟩
    · cases e
    have R := S.rows r2 c v s ro h
    refine ⟨R.ver, R.fin, ?_, fun k d n hf => ?_⟩
    · obtain ⟨d, n, h1, h2⟩ := R.new
      obtain ⟨-, ⟨c1, e1, f1, g1, -, -⟩, -⟩ := R.all _ _ _ h1
      exact ⟨d, n, h1, fun p u hp => (h2 p u hp).mono (.refl σ) (fun q _ => hcell _ (hne g1) q)⟩
    · obtain ⟨g0, ⟨c1, e1, f1, g1, g2, g3⟩, g4⟩ := R.all k d n hf
      exact ⟨g0, ⟨c1, e1, f1, by rw [hother (hne g1)]; exact g1, g2, g3⟩, fun p u hp hu => (g4 p u hp hu).mono (.refl σ) (fun q _ => hcell _ (hne g1) q)⟩
  · rcases hset _ _ h with ⟨rfl, e⟩ | ⟨hn, h⟩
    · cases e
      exact ⟨b, es', clock', hb, hbase, World.putObj_heap_same hlt, hE⟩
    · obtain ⟨k, es2, c2, g1, g2, g3, g4⟩ := (S.maps r2 l2 h).at_
      refine ⟨k, es2, c2, g1, g2, ?_, g4⟩
      rw [hother (fun e => hn (S.minj _ _ _ (by rw [e] at g1; exact g1) hb))]
      exact g3
  · rcases hset _ _ h with ⟨-, e⟩ | ⟨-, h⟩
    · cases e
    · exact S.gvars r2 g c h
  · rcases hset _ _ h with ⟨-, e⟩ | ⟨hn, h⟩
    · cases e
    · obtain ⟨k, R2, g1, g2, g3, g4⟩ := (S.loops r2 s pe L h).at_
      refine ⟨k, R2, g1, g2, ?_, g4⟩
      rw [hother (fun e => hn (S.minj _ _ _ (by rw [e] at g1; exact g1) hb))]
      exact g3
  · obtain ⟨g1, g2⟩ := S.oths k x h
    refine ⟨g1, ?_⟩
    have hkb : k ≠ b := by
      rintro rfl
      cases x with
      | false => have : w.heap[k]? = some (.deferred (some [])) := g2; rw [hh] at this; cases this
      | true => obtain ⟨R, g2⟩ := g2; rw [hh] at g2; cases g2
    cases x with
    | false => exact (hother hkb).trans g2
    | true => obtain ⟨R, g2⟩ := g2; exact ⟨R, (hother hkb).trans g2⟩

theorem aMapMake_sound (S : Sim base w0 σ H w) {t : TypeId} {r : Option AV} {rc : Option Value} {v : Option AV} {H' : AH} (h : aMapMake P t r H = some (v, H')) (hr : match r, rc with | none, none => True | some a, some b => RelV σ a b | _, _ => False) :
    ∃ c w' σ', (Instr.makeMap t rc).run P w = .ok c w' ∧ σ.le σ' ∧ Sim base w0 σ' H' w' ∧ NextOk σ' v (.value c) := by
  unfold aMapMake at h
  split at h
  case isFalse => cases h
  rename_i ht
  obtain ⟨⟨d, z⟩, ht⟩ := Option.isSome_iff_exists.1 ht
  obtain ⟨kt, et, zc, hu, hk, hz, hzr⟩ := mapT_some ht
  obtain ⟨h1, h2⟩ := S.newMap
  split at h
  · cases h
    cases rc with
    | some y => exact hr.elim
    | none => exact ⟨.map (some w.heap.size), _, _, rfl, h1, h2, .map (by simp [Inj.addMap])⟩
  · cases h
    cases rc with
    | none => exact hr.elim
    | some y =>
      cases hr
      exact ⟨.map (some w.heap.size), _, _, by simp [Instr.makeMap, run_underlying hu, asInt, asIntOf, Result.andThen], h1, h2, .map (by simp [Inj.addMap])⟩
  · cases h

theorem aMapPut_sound (S : Sim base w0 σ H w) {t : TypeId} {m x v : AV} {a c u : Value} {H' : AH} (h : aMapPut P H t m x v = some H') (hm : RelV σ m a) (hx : RelV σ x c) (hv : RelV σ v u) :
    ∃ w', (Instr.mapUpdate t a c u).run P w = .ok () w' ∧ Sim base w0 σ H' w' := by
  unfold aMapPut at h
  split at h
  case h_2 => cases h
  rename_i d z r ht
  obtain ⟨kt, et, zc, hu, hk, hz, hzr⟩ := mapT_some ht
  split at h
  case isFalse => cases h
  rename_i hok
  have hkey := keyOkA_key hok hx
  obtain ⟨l, hl, h⟩ := Option.bind_eq_some_iff.1 h
  obtain ⟨l', hq, rfl⟩ := Option.map_eq_some_iff.1 h
  obtain ⟨b, es, clock, g1, g2, g3, g4⟩ := (S.maps r l (mrow_some hl)).at_
  cases hm with
  | map hmb =>
  rw [g1] at hmb; cases hmb
  rcases mput_sound (clock := clock) hx hv 0 hq g4 with ⟨a1, a2⟩ | ⟨j, e, a1, a2, a3, a4⟩
  · refine ⟨w.putObj b (.map (es.push { key := c, val := u, born := clock }) (clock + 1)), ?_, S.setMap (mrow_some hl) g1 g2 g3 (by rw [Array.toList_push]; exact a2)⟩
    simp [Instr.mapUpdate, run_underlying hu, MapKept.run_getObj_map g3, MapKept.run_checkKey hk hkey, MapKept.run_findKey hk a1, MapKept.run_setObj_map _ g3, World.putObj]
  · have hj : es[j]? = some e := by rw [← Array.getElem?_toList]; exact a2
    refine ⟨w.putObj b (.map (es.modify j fun e => { e with key := c, val := u }) clock), ?_, S.setMap (mrow_some hl) g1 g2 g3 (by rw [Array.toList_modify]; exact a4)⟩
    simp [Instr.mapUpdate, run_underlying hu, MapKept.run_getObj_map g3, MapKept.run_checkKey hk hkey, MapKept.run_findKey hk a1, MapKept.run_setObj_map _ g3, World.putObj, hj, a3, MapKept.run_keyThatStays hkey]
end
end Go.Proofs.Ytjfmiohgkcjdnaa.AX
