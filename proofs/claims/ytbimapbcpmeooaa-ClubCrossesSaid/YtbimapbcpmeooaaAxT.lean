/- A plain reading of runs (T). -/
import Derived.Test.YtbimapbcpmeooaaAxN
import Derived.WalkKit
import Derived.ProofKit
import Derived.OpenShut
import Derived.Below
import Derived.ChangeSame
import Derived.Carry
import Derived.ChangeSlices
/- A plain reading of runs: a law's frame. -/
namespace Go.Proofs.Ytbimapbcpmeooaa.AX
open Go Go.RowKit Go.ChangeShapes Go.WideShapes Go.ChangeAt

section
variable {H : Type} {enc : TypeId × Value → H} {P : Program}
theorem postB {f : Func} {s : ChangeSpec} {apart fresh handsOn again : Bool} {W W' : World} {args : Array Value} {v : Value} {ds gs : List (DataW H)} {before : List MemPlace} (hb : Below W.heap.size W W')
    (hW : DataW.Whole enc P f.params.toList s.vars apart W args.toList ds gs before) {pa pv : List MemPlace} (hps : before = pa ++ pv)
    (hargs : ∀ sp : Nat → Bool, (∀ p ∈ before, sp p.block = true) → DataW.TrodAll enc P W' 0 sp true f.params.toList args.toList (s.fn H (ds ++ gs)).args pa)
    (hvars : ∀ sp : Nat → Bool, (∀ p ∈ before, sp p.block = true) → DataW.TrodVars enc P W' sp s.vars (s.fn H (ds ++ gs)).vars pv)
    (hres : ∀ (b : Nat) (sp : Nat → Bool) (hd : Bool), DataW.TrodAll enc P W' b sp hd f.resultTypes.toList (v.resultList f.resultTypes.size) (s.fn H (ds ++ gs)).results [])
    (hok : ∀ (j : Nat) (t : TypeId) (r : Value), f.resultTypes[j]? = some t → (v.resultList f.resultTypes.size)[j]? = some r → Value.okWide P W' .any 0 t r) : s.post enc P f apart fresh handsOn again W args v W' := by
  have low : ∀ p ∈ before, p.block < W.heap.size := fun p hp => hW.lt p hp
  have A := hargs (fun b => decide (b < W.heap.size)) fun p hp => decide_eq_true (low p hp)
  have V := hvars (fun b => decide (b < W.heap.size)) fun p hp => decide_eq_true (low p hp)
  have A1 := hargs (fun _ => true) fun _ _ => rfl
  have V1 := hvars (fun _ => true) fun _ _ => rfl
  obtain ⟨p1, q1, g1, g2, g3, gz, gn⟩ := id hW
  have T := trodAll_append A1 (hres 0 (fun _ => true) true)
  have hin : ∀ p, p ∈ ([] ++ pa) ++ pv → p ∈ before := fun p hp => by rw [hps]; exact hp
  refine ⟨ds, gs, before, [], pa, pv, hW, hres _ _ _, A, V, World.keptBut_mono (fun p hp => ⟨hp, .inr (List.mem_append.1 (hps ▸ hp))⟩) (hb.frame fun p => p ∈ before), fun _ => ⟨hok, _, _, _, ⟨_, pv, T, V1, rfl, fun b off hp => ?_, fun ha => ?_⟩, fun p hp _ => hin p hp⟩⟩
  · rw [hb.frozen (low _ (hin _ hp))]
    exact gz b off (hin _ hp)
  · have := gn ha
    rw [hps] at this
    exact this

/-- Types that can be read. -/
def rowed (P : Program) (ts : List TypeId) : Bool := ts.all fun t => P.readableRec t && decide (t < P.types.size)

theorem trodAll_stays (hl : laidOutB P = true) {W W' : World} (hb : Below W.heap.size W W') {sp : Nat → Bool} : ∀ {ts : List TypeId} {vs : List Value} {ds : List (DataW H)} {ps : List MemPlace}, rowed P ts = true →
    DataW.TrodAll enc P W 0 (fun _ => true) true ts vs ds ps → (∀ p ∈ ps, p.block < W.heap.size) → (∀ p ∈ ps, sp p.block = true) → DataW.TrodAll enc P W' 0 sp true ts vs ds ps := by
  intro ts
  induction ts with
  | nil =>
    intro vs ds ps _ h _ _
    obtain ⟨rfl, rfl, rfl⟩ := trodAll_nil h
    exact trodAll_mk0
  | cons t ts ih =>
    intro vs ds ps hr h hlt hs
    obtain ⟨v0, vs0, d0, ds0, p0, q0, rfl, rfl, rfl, h0, r0⟩ := trodAll_cons h
    simp only [rowed, List.all_cons, Bool.and_eq_true, decide_eq_true_eq] at hr
    refine trodAll_cons_mk ?_ (ih (by simp only [rowed]; exact hr.2) r0 (fun p hp => hlt p (by simp [hp])) (fun p hp => hs p (by simp [hp])))
    exact WideElems.Trod_stays hl hr.1.1 hr.1.2 h0 (fun x hx => hb.same (hlt x (by simp [hx]))) (fun x hx => hs x (by simp [hx]))

/-- A law whose call leaves all that was there as it was. -/
theorem law_post {f : Func} {s : ChangeSpec} {apart fresh handsOn again : Bool} {W W' : World} {args : Array Value} {ds : List (DataW H)} {before : List MemPlace} (hb : Below W.heap.size W W') (hl : laidOutB P = true) (hr : rowed P f.params.toList = true)
    (hv : s.vars = []) {tb : TypeId} (hres : f.resultTypes = #[tb]) (htb : P.underlying tb = some .bool)
    (hW : DataW.Whole enc P f.params.toList s.vars apart W args.toList ds [] before) (hA : DataW.TrodAll enc P W 0 (fun _ => true) true f.params.toList args.toList ds before)
    (hfa : (s.fn H (ds ++ [])).args = ds) (hfr : (s.fn H (ds ++ [])).results = [.lit (.bool true)]) (hfv : (s.fn H (ds ++ [])).vars = []) : s.post enc P f apart fresh handsOn again W args (.bool true) W' := by
  refine postB hb hW (pa := before) (pv := []) (by simp) (fun sp hs => ?_) (fun sp hs => ?_) (fun b sp hd => ?_) ?_
  · rw [hfa]
    exact trodAll_stays hl hb hr hA (fun p hp => hW.lt p hp) hs
  · rw [hfv, hv]; rfl
  · rw [hfr, hres]
    exact trodAll_cons_mk (shut_bool htb _) trodAll_mk0
  · exact ok_one hres rfl (okWide_bool_mk htb _)
end

/-! ### What a call begins with -/
section
variable {P : Program}

def cellsOf0 (W : World) (b : Nat) : Array Value := match W.heap[b]? with | some (.cells C _ _) => C | _ => #[]
def H0 (W : World) (bs : List Nat) : AH := bs.map fun b => .row ((cellsOf0 W b).toList.map (absV 3)) 0 0 true
def inj0 (W : World) (bs : List Nat) : Inj := ⟨fun r => bs.getD r 0, fun b => (bs.idxOf? b).map fun i => (i, 0, (cellsOf0 W b).size), fun _ => 0, fun _ => none, fun _ => 0, fun _ => none⟩

theorem idxOf_some {bs : List Nat} {b i : Nat} (h : bs.idxOf? b = some i) : bs[i]? = some b := by
  have := List.idxOf?_eq_some_iff.1 h
  obtain ⟨h1, h2, -⟩ := this
  rw [List.getElem?_eq_getElem h1]
  simp_all
theorem idxOf_nodup {bs : List Nat} (hn : bs.Nodup) {b i : Nat} (h : bs[i]? = some b) : bs.idxOf? b = some i := by
  rw [List.idxOf?_eq_some_iff]
  obtain ⟨hi, rfl⟩ := List.getElem?_eq_some_iff.1 h
  refine ⟨hi, by simp, fun j hj => ?_⟩
  intro he
  have := (List.getElem_inj hn).1 he
  omega

theorem sim0 {W : World} {bs : List Nat} (hn : bs.Nodup) (hb : ∀ b ∈ bs, ∃ C e fz, W.heap[b]? = some (.cells C e fz)) : Sim W.heap.size W (inj0 W bs) (H0 W bs) W := by
  have hlt : ∀ b ∈ bs, b < W.heap.size := fun b h => by
    obtain ⟨C, e, fz, hc⟩ := hb b h
    exact (Array.getElem?_eq_some_iff.1 hc).1
  have hfam : ∀ {b r d n}, (inj0 W bs).fam b = some (r, d, n) → bs[r]? = some b ∧ d = 0 ∧ n = (cellsOf0 W b).size := by
    intro b r d n h
    simp only [inj0, Option.map_eq_some_iff] at h
    obtain ⟨i, hi, h⟩ := h
    cases h
    exact ⟨idxOf_some hi, rfl, rfl⟩
  refine ⟨.refl _ _, Nat.le_refl _, ?_, fun r b h => by simp [inj0] at h, ?_, ?_, fun r g c h => by simp [H0] at h, fun r s pe L h => by simp [H0] at h, fun b k h => by simp [inj0] at h, fun r r' b h => by simp [inj0] at h, fun r s pos h => by simp [H0] at h⟩
  · intro b r d n h
    obtain ⟨h1, -, -⟩ := hfam h
    refine ⟨?_, hlt b (List.mem_of_getElem? h1)⟩
    simp only [H0, List.length_map]
    exact (List.getElem?_eq_some_iff.1 h1).1
  · intro r cells ver stale ro h
    simp only [H0, List.getElem?_map, Option.map_eq_some_iff] at h
    obtain ⟨b, hr, h⟩ := h
    cases h
    obtain ⟨C, e, fz, hc⟩ := hb b (List.mem_of_getElem? hr)
    have hcells : cellsOf0 W b = C := by simp [cellsOf0, hc]
    have hcan : (inj0 W bs).canon r = b := by simp [inj0, List.getD, hr]
    have hat : ∀ (p : Nat) (v : AV), ((cellsOf0 W b).toList.map (absV 3))[p]? = some v → CellAt (inj0 W bs) W b (0 + p) v := by
      intro p v hp
      simp only [List.getElem?_map, Option.map_eq_some_iff, Array.getElem?_toList, hcells] at hp
      obtain ⟨c, hp, rfl⟩ := hp
      refine .inr ⟨p, c, by omega, ?_, relV_absV _ 3 c⟩
      rw [cell_of hc]; exact hp
    refine ⟨rfl, rfl, ⟨0, (cellsOf0 W b).size, ?_, fun p v hp => ?_⟩, ?_⟩
    · rw [hcan]; simp [inj0, idxOf_nodup hn hr]
    · rw [hcan]; exact hat p v hp
    · intro b' d n hf
      obtain ⟨h1, rfl, rfl⟩ := hfam hf
      rw [hr] at h1; cases h1
      exact ⟨(fun h => by cases h), ⟨C, e, fz, hc, by rw [hcells], (fun h => by cases h)⟩, fun p v hp => by omega⟩
  · intro r l h
    simp [H0] at h

/-- The same beside package variables. -/
theorem simG {W : World} {bs : List Nat} {gs : List (Nat × List AV)} (hn : bs.Nodup) (hb : ∀ b ∈ bs, ∃ C e fz, W.heap[b]? = some (.cells C e fz))
    (hg : ∀ x ∈ gs, ∃ C e fz, W.heap[x.1]? = some (.cells C e fz) ∧ RelVs .empty x.2 C.toList) : Sim W.heap.size W (inj0 W bs) (H0 W bs ++ gRows gs) W := by
  have S := sim0 hn hb
  have hle : Inj.empty.le (inj0 W bs) := ⟨fun b r d n h => by simp [Inj.empty] at h, fun b r d n h => by simp [Inj.empty] at h, fun r b h => by simp [Inj.empty] at h, fun r b h => by simp [Inj.empty] at h⟩
  have hrow : ∀ (r : Nat) (o : AObj), (H0 W bs ++ gRows gs)[r]? = some o → (H0 W bs)[r]? = some o ∨ ∃ x ∈ gs, o = AObj.gvar x.1 x.2 := by
    intro r o ho
    rcases Nat.lt_or_ge r (H0 W bs).length with h1 | h1
    · rw [List.getElem?_append_left h1] at ho; exact .inl ho
    · rw [List.getElem?_append_right h1] at ho
      simp only [gRows, List.getElem?_map, Option.map_eq_some_iff] at ho
      obtain ⟨x, hx, rfl⟩ := ho
      exact .inr ⟨x, List.mem_of_getElem? hx, rfl⟩
  refine ⟨S.below, S.size, fun b r d n h => ?_, fun r b h => ?_, fun r c v s o h => ?_, fun r l h => ?_, fun r g c h => ?_, fun r s pe L h => ?_, S.oths, S.minj, fun r s pos h => ?_⟩
  · have := S.lt b r d n h; rw [List.length_append]; exact ⟨by omega, this.2⟩
  · have := S.mlt r b h; rw [List.length_append]; exact ⟨by omega, this.2⟩
  · rcases hrow _ _ h with h1 | ⟨x, -, e⟩
    · exact S.rows _ _ _ _ _ h1
    · cases e
  · rcases hrow _ _ h with h1 | ⟨x, -, e⟩
    · exact S.maps _ _ h1
    · cases e
  · rcases hrow _ _ h with h1 | ⟨x, hx, e⟩
    · exact S.gvars _ _ _ h1
    · cases e
      obtain ⟨C, e, fz, h2, h3⟩ := hg x hx
      exact ⟨(Array.getElem?_eq_some_iff.1 h2).1, C, e, fz, h2, h3.mono hle⟩
  · rcases hrow _ _ h with h1 | ⟨x, -, e⟩
    · exact S.loops _ _ _ _ h1
    · cases e
  · rcases hrow _ _ h with h1 | ⟨x, -, e⟩
    · exact S.iters _ _ _ h1
    · cases e
theorem gfind_H0 {W : World} {bs : List Nat} {T : AH} {g : Nat} : gfind (H0 W bs ++ T) g = gfind T g := by
  unfold H0
  induction bs with
  | nil => rfl
  | cons b bs ih => simpa only [List.map_cons, List.cons_append, gfind] using ih

/-- A slice of ints that came in. -/
structure Came (W : World) (v : Value) (k : IntKind) (l : List Int) : Prop where
  all : (v = .slice none 0 0 ∧ l = []) ∨ ∃ b o cap C e fz, v = .slice (some ⟨b, o, none⟩) l.length cap ∧ l.length ≤ cap ∧ W.heap[b]? = some (.cells C e fz) ∧ (cap ≠ 0 → o + cap ≤ C.size) ∧ ∀ i (h : i < l.length), C[o + i]? = some (.int k l[i])
  wf : ∀ n ∈ l, (Lit.int k n).wf = true
  max : l.length ≤ maxLen

theorem came {H : Type} {enc : TypeId × Value → H} {t e : TypeId} {k : IntKind} {W : World} {base : Nat} {v : Value} {d : DataW H} {ps : List MemPlace} (ht : P.underlying t = some (.slice e)) (he : P.underlying e = some (.int k)) (hc : P.cellsOf e = 1)
    (hok : Value.okWide P W .any base t v) (h : DataW.Trod enc P W 0 (fun _ => true) true t v d ps) : ∃ l, Came W v k l := by
  obtain ⟨a0, len0, cap0, rfl⟩ := okWide_slice ht hok
  obtain ⟨n, hn⟩ := h
  have hcells : (Value.slice a0 len0 cap0).cells.toList = [.slice a0 len0 cap0] := rfl
  rw [hcells] at hn
  rcases open_ints ht he hc hn with ⟨hcs, -⟩ | ⟨a, len, cap, zs, hcs, -, hl, hm, hz, -, hcell, hwz⟩
  · cases hcs
    exact ⟨[], .inl ⟨rfl, rfl⟩, by simp, by simp⟩
  · cases hcs
    simp only [if_true] at hz
    have hhas : W.has P .any base a e cap0 := by
      simp only [Value.okWide, ht, Cell.okWide, Cell.ok] at hok
      exact hok.2.2
    obtain ⟨-, hsp, row, cells, hsh, -⟩ := hhas
    obtain ⟨b, o, sp⟩ := a
    simp only at hsp hsh
    subst hsp
    have hblk : ∃ C et fz, W.heap[b]? = some (.cells C et fz) := by
      unfold World.shape? at hsh
      cases hh : W.heap[b]? with
      | none => rw [hh] at hsh; simp at hsh
      | some ob =>
        rw [hh] at hsh
        cases ob with
        | cells C et fz => exact ⟨C, et, fz, rfl⟩
        | _ => simp at hsh
    obtain ⟨C, et, fz, hC⟩ := hblk
    have hget : ∀ i, i < cap0 → C[o + i]? = some (.int k (zs.getD i 0)) := by
      intro i hi
      have := hcell i (by omega)
      have e1 : (⟨b, o, none⟩ : Addr).add i = ⟨b, o + i, none⟩ := Addr.add_mid b o i
      rw [e1, cell_of hC] at this
      exact this
    have hlen : (zs.take len0).length = len0 := by simp; omega
    refine ⟨zs.take len0, .inr ⟨b, o, cap0, C, et, fz, by rw [hlen], by omega, hC, fun h0 => ?_, fun i hi => ?_⟩, fun n hn => hwz n (List.mem_of_mem_take hn), by omega⟩
    · have := hget (cap0 - 1) (by omega)
      have := (Array.getElem?_eq_some_iff.1 this).1
      omega
    · rw [hlen] at hi
      rw [hget i (by omega)]
      simp [List.getD, show i < zs.length by omega]

def blockOf : Value → List Nat
  | .slice (some a) _ _ => [a.block]
  | _ => []
theorem blockOf_nodup (v : Value) : (blockOf v).Nodup := by
  unfold blockOf
  split <;> simp
theorem Came.block {W : World} {v : Value} {k : IntKind} {l : List Int} (h : Came W v k l) : ∀ b ∈ blockOf v, ∃ C e fz, W.heap[b]? = some (.cells C e fz) := by
  rcases h.all with ⟨rfl, -⟩ | ⟨b, o, cap, C, e, fz, rfl, -, hC, -⟩
  · intro b hb; simp [blockOf] at hb
  · intro b' hb; simp [blockOf] at hb; subst hb; exact ⟨C, e, fz, hC⟩

/-- The blocks of many slices, each once. -/
def blocksOf : List Value → List Nat
  | [] => []
  | v :: vs => match blockOf v with
    | [] => blocksOf vs
    | b :: _ => if b ∈ blocksOf vs then blocksOf vs else b :: blocksOf vs
theorem blocksOf_nodup : ∀ vs : List Value, (blocksOf vs).Nodup
  | [] => .nil
  | v :: vs => by
    simp only [blocksOf]
    split
    · exact blocksOf_nodup vs
    · split
      · exact blocksOf_nodup vs
      · rename_i h; exact List.nodup_cons.2 ⟨h, blocksOf_nodup vs⟩
theorem blockOf_one {v : Value} {b : Nat} {l : List Nat} (h : blockOf v = b :: l) : l = [] := by
  unfold blockOf at h
  split at h
  · simp at h; exact h.2
  · cases h
theorem blocksOf_mem : ∀ {vs : List Value} {v : Value} {b : Nat}, v ∈ vs → b ∈ blockOf v → b ∈ blocksOf vs
  | w :: vs, v, b, hv, hb => by
    simp only [blocksOf]
    rcases List.mem_cons.1 hv with rfl | hv
    · split
      · rename_i h; rw [h] at hb; simp at hb
      · rename_i b' l h
        have := blockOf_one h
        subst this
        rw [h] at hb
        simp only [List.mem_singleton] at hb
        subst hb
        split
        · assumption
        · simp
    · have := blocksOf_mem hv hb
      split
      · exact this
      · split
        · exact this
        · exact List.mem_cons_of_mem _ this
theorem blocksOf_of : ∀ {vs : List Value} {b : Nat}, b ∈ blocksOf vs → ∃ v ∈ vs, b ∈ blockOf v
  | v :: vs, b, h => by
    simp only [blocksOf] at h
    split at h
    · obtain ⟨w, h1, h2⟩ := blocksOf_of h; exact ⟨w, List.mem_cons_of_mem _ h1, h2⟩
    · rename_i b' l hb
      split at h
      · obtain ⟨w, h1, h2⟩ := blocksOf_of h; exact ⟨w, List.mem_cons_of_mem _ h1, h2⟩
      · rcases List.mem_cons.1 h with rfl | h
        · exact ⟨v, List.mem_cons_self, by rw [hb]; simp⟩
        · obtain ⟨w, h1, h2⟩ := blocksOf_of h; exact ⟨w, List.mem_cons_of_mem _ h1, h2⟩

/-- It reads as a list. -/
theorem Came.ls {W : World} {v : Value} {k : IntKind} {l : List Int} (h : Came W v k l) {bs : List Nat} (hn : bs.Nodup) (hb : ∀ b ∈ blockOf v, b ∈ bs) :
    ∃ a, RelV (inj0 W bs) a v ∧ ∃ r off ver sz full, a = .slice r off l.length ver sz full ∧ ∀ i (h : i < l.length), ∃ r', r = some r' ∧ sz = 1 ∧ ld (H0 W bs) r' (off + i) ver = some (.int k l[i]) := by
  rcases h.all with ⟨rfl, rfl⟩ | ⟨b, o, cap, C, e, fz, rfl, hlc, hC, hcap, hget⟩
  · exact ⟨.slice none 0 0 0 1 false, .nilslice, none, 0, 0, 1, false, rfl, fun i h => by simp at h⟩
  · obtain ⟨i0, hi0, he0⟩ := List.mem_iff_getElem.1 (hb b (by simp [blockOf]))
    have hi0' : bs[i0]? = some b := by rw [List.getElem?_eq_getElem hi0, he0]
    have hcells : cellsOf0 W b = C := by simp [cellsOf0, hC]
    refine ⟨.slice (some i0) o l.length 0 1 false, ?_, some i0, o, 0, 1, false, rfl, fun i hi => ⟨i0, rfl, rfl, ?_⟩⟩
    · refine .slice (d := 0) (n := (cellsOf0 W b).size) ?_ (Nat.le_refl _) (fun _ => ?_) hlc (fun h0 => ⟨by simp, ?_, rfl⟩) (fun h => by cases h) (fun _ => Nat.zero_le _)
      · simp [inj0, idxOf_nodup hn hi0']
      · simp [inj0, List.getD, hi0']
      · rw [hcells]; simpa using hcap h0
    · have hrow : (H0 W bs)[i0]? = some (.row (C.toList.map (absV 3)) 0 0 true) := by simp [H0, hi0', hcells]
      simp only [ld, hrow]
      rw [if_pos (.inl trivial), List.getElem?_map, Array.getElem?_toList, hget i hi]
      rfl

/-- A struct or an array of ints that came in. -/
theorem agg_ints {t : TypeId} {k : IntKind} {n : Nat} {W : World} {base : Nat} {v : Value} {ts : List TypeId} (hd : (match P.underlying t with | some (.struct _) => true | some (.array _ _) => true | _ => false) = true) (ht : P.cellTypes P.depth t = some ts)
    (hall : ts.all (fun u => match P.underlying u with | some (.int k') => decide (k' = k) | _ => false) = true) (hn : P.cellsOf t = n) (hok : Value.okWide P W .any base t v) :
    ∃ ns : List Int, v = .agg (ns.map (Value.int k)).toArray ∧ ns.length = n ∧ ∀ x ∈ ns, k.min ≤ x ∧ x ≤ k.max := by
  have h : ∃ cs, v = .agg cs ∧ cs.size = P.cellsOf t ∧ Row.okWide P W .any base t cs := by
    unfold Value.okWide at hok
    split at hok
    · exact hok
    · exact hok
    · rename_i h1 h2
      split at hd
      · rename_i hu; exact absurd hu (h1 _)
      · rename_i hu; exact absurd hu (h2 _ _)
      · cases hd
  obtain ⟨cs, rfl, hsz, ts', hts, -, hcell⟩ := h
  rw [ht] at hts
  cases hts
  have hint : ∀ (i : Nat) (c : Value), cs[i]? = some c → ∃ m : Int, c = Value.int k m ∧ k.min ≤ m ∧ m ≤ k.max := by
    intro i c hc
    obtain ⟨u, hu, hcu⟩ := hcell i c hc
    have hku := List.all_eq_true.1 hall u (List.mem_of_getElem? hu)
    split at hku
    · rename_i k' hk'
      obtain rfl := of_decide_eq_true hku
      simp only [Cell.okWide, hk', Cell.ok] at hcu
      split at hcu <;> simp_all [IntKind.has]
    · cases hku
  have key : ∀ l : List Value, (∀ c : Value, c ∈ l → ∃ m : Int, c = Value.int k m ∧ k.min ≤ m ∧ m ≤ k.max) → ∃ ns : List Int, l = ns.map (Value.int k) ∧ ∀ x ∈ ns, k.min ≤ x ∧ x ≤ k.max := by
    intro l
    induction l with
    | nil => intro _; exact ⟨[], rfl, by simp⟩
    | cons c l ih =>
      intro h
      obtain ⟨m, rfl, h1⟩ := h c (by simp)
      obtain ⟨ns, rfl, h2⟩ := ih (fun c hc => h c (by simp [hc]))
      exact ⟨m :: ns, rfl, fun x hx => by
        rcases List.mem_cons.1 hx with rfl | hx
        · exact h1
        · exact h2 x hx⟩
  obtain ⟨ns, h1, h2⟩ := key cs.toList (fun c hc => by
    obtain ⟨i, hi, rfl⟩ := List.mem_iff_getElem.1 hc
    exact hint i _ (by rw [← Array.getElem?_toList, List.getElem?_eq_getElem hi]))
  refine ⟨ns, ?_, ?_, h2⟩
  · rw [← h1]
  · have := congrArg List.length h1
    simp at this
    omega
theorem relVs_ints {σ : Inj} (k : IntKind) : ∀ ns : List Int, RelVs σ (ns.map (AV.int k)) (ns.map (Value.int k))
  | [] => .nil
  | _n :: ns => .cons (.int _ _) (relVs_ints k ns)
/-- A struct whose first field is a slice. -/
def headT (P : Program) (t ts : TypeId) : Bool := match P.underlying t with
  | some (.struct fs) => match fs.toList with | f :: _ => f.type == ts && f.offset == 0 | _ => false
  | _ => false
theorem rec_came {H : Type} {enc : TypeId × Value → H} {t ts te ti : TypeId} {k : IntKind} {W : World} {base : Nat} {v : Value} {d : DataW H} {ps : List MemPlace} (hh : headT P t ts = true) (ht : P.cellTypes P.depth t = some [ts, ti, ti]) (hn : P.cellsOf t = 3) (hc1 : P.cellsOf ts = 1)
    (hts : P.underlying ts = some (.slice te)) (hte : P.underlying te = some (.int k)) (hce : P.cellsOf te = 1) (hti : P.underlying ti = some (.int k)) (hok : Value.okWide P W .any base t v) (h : DataW.Trod enc P W 0 (fun _ => true) true t v d ps) :
    ∃ (s : Value) (m n : Int) (l : List Int), v = .agg #[s, .int k m, .int k n] ∧ Came W s k l := by
  unfold headT at hh
  split at hh
  case h_2 => cases hh
  rename_i fs hu
  have h1 : ∃ cs, v = .agg cs ∧ cs.size = P.cellsOf t ∧ Row.okWide P W .any base t cs := by
    unfold Value.okWide at hok
    split at hok
    · exact hok
    · exact hok
    · rename_i h1 h2
      exact absurd hu (h1 _)
  obtain ⟨cs, rfl, hsz, ts', hts', -, hcell⟩ := h1
  rw [ht] at hts'
  cases hts'
  rw [hn] at hsz
  obtain ⟨c0, c1, c2, hcs⟩ : ∃ c0 c1 c2, cs.toList = [c0, c1, c2] := by
    have : cs.toList.length = 3 := by simpa using hsz
    match hl : cs.toList, this with
    | [a, b, c], _ => exact ⟨a, b, c, rfl⟩
  have hcs2 : cs = #[c0, c1, c2] := by rw [← Array.toList_inj]; exact hcs
  subst hcs2
  obtain ⟨u0, e0, k0⟩ := hcell 0 c0 rfl
  obtain ⟨u1, e1, k1⟩ := hcell 1 c1 rfl
  obtain ⟨u2, e2, k2⟩ := hcell 2 c2 rfl
  cases e0; cases e1; cases e2
  have hint : ∀ c : Value, Cell.okWide P W .any base ti c → ∃ m : Int, c = .int k m := by
    intro c hc
    simp only [Cell.okWide, hti, Cell.ok] at hc
    split at hc <;> simp_all [IntKind.has]
  obtain ⟨m, rfl⟩ := hint c1 k1
  obtain ⟨n, rfl⟩ := hint c2 k2
  have hok0 : Value.okWide P W .any base ts c0 := by
    unfold Value.okWide
    rw [hts]
    exact k0
  obtain ⟨a0, len0, cap0, rfl⟩ := okWide_slice hts hok0
  obtain ⟨fuel, hf⟩ := h
  cases fuel with
  | zero => cases hf
  | succ fuel =>
    have hf : (match P.underlying t, [Value.slice a0 len0 cap0, .int k m, .int k n] with
      | some (.struct fs), cs => if cs.length = P.cellsOf t then (fs.toList.mapM fun f => DataW.trod enc P W 0 (fun _ => true) true fuel f.type ((cs.drop f.offset).take (P.cellsOf f.type))).map fun xs => (DataW.agg (xs.map (·.1)), xs.flatMap (·.2)) else none
      | _, _ => none) = some (d, ps) := by
      rw [hu]
      unfold DataW.trod at hf
      rw [hu] at hf
      exact hf
    rw [hu] at hf
    simp only [] at hf
    split at hf
    case isFalse => cases hf
    obtain ⟨xs, hx, -⟩ := Option.map_eq_some_iff.1 hf
    split at hh
    case h_2 => cases hh
    rename_i f rest hfs
    simp only [Bool.and_eq_true, beq_iff_eq] at hh
    rw [hfs, List.mapM_cons, hh.1, hh.2, hc1] at hx
    obtain ⟨x0, hx0, -⟩ := Option.bind_eq_some_iff.1 hx
    obtain ⟨l, hl⟩ := came (d := x0.1) (ps := x0.2) hts hte hce hok0 ⟨fuel, hx0⟩
    exact ⟨_, m, n, l, rfl, hl⟩
theorem relV_agg {σ : Inj} (k : IntKind) (ns : List Int) : RelV σ (.agg (ns.map (AV.int k))) (.agg (ns.map (Value.int k)).toArray) := .agg (by simpa using relVs_ints k ns)

/-- From a statement about rows to the call. -/
theorem AC.law {f : FuncId} {args : List AV} {cargs : Array Value} {W : World} {σ : Inj} {H : AH} {Q : AV → AH → Prop} (h : AC P f args H Q) (S : Sim W.heap.size W σ H W) (hr : RelVs σ args cargs.toList) (hq : ∀ v H', Q v H' → v = .bool true) :
    Calls P f cargs W fun e w' => e = .returned (.bool true) ∧ Below W.heap.size W w' := by
  refine (h W.heap.size W σ W cargs S hr).mono ?_
  rintro en w' ⟨c, σ', v, H', rfl, -, h3, h4, h5⟩
  have := hq _ _ h5
  subst this
  exact ⟨by rw [relV_bool h4], h3.below⟩
end
end Go.Proofs.Ytbimapbcpmeooaa.AX

/- A plain reading of runs: a struct of ints of several kinds, in a law's frame. -/
namespace Go.Proofs.Ytbimapbcpmeooaa.AX
open Go Go.RowKit

section
variable {P : Program}
theorem agg_mix {t : TypeId} {ks : List IntKind} {n : Nat} {W : World} {base : Nat} {v : Value} {ts : List TypeId} (hd : (match P.underlying t with | some (.struct _) => true | some (.array _ _) => true | _ => false) = true) (ht : P.cellTypes P.depth t = some ts)
    (hall : (ts.length == ks.length && (ts.zip ks).all (fun x => match P.underlying x.1 with | some (.int k') => decide (k' = x.2) | _ => false)) = true) (hn : P.cellsOf t = n) (hnk : n = ks.length) (hok : Value.okWide P W .any base t v) :
    ∃ ns : List Int, v = .agg (List.zipWith Value.int ks ns).toArray ∧ ns.length = n ∧ ∀ (i : Nat) (k : IntKind) (x : Int), ks[i]? = some k → ns[i]? = some x → k.min ≤ x ∧ x ≤ k.max := by
  have h : ∃ cs, v = .agg cs ∧ cs.size = P.cellsOf t ∧ Row.okWide P W .any base t cs := by
    unfold Value.okWide at hok
    split at hok
    · exact hok
    · exact hok
    · rename_i h1 h2
      split at hd
      · rename_i hu; exact absurd hu (h1 _)
      · rename_i hu; exact absurd hu (h2 _ _)
      · cases hd
  obtain ⟨cs, rfl, hsz, ts', hts, -, hcell⟩ := h
  rw [ht] at hts
  cases hts
  simp only [Bool.and_eq_true, beq_iff_eq] at hall
  have hint : ∀ (i : Nat) (c : Value) (k : IntKind), cs[i]? = some c → ks[i]? = some k → ∃ m : Int, c = Value.int k m ∧ k.min ≤ m ∧ m ≤ k.max := by
    intro i c k hc hk
    obtain ⟨u, hu, hcu⟩ := hcell i c hc
    have hi : i < cs.size := by
      rcases Nat.lt_or_ge i cs.size with h | h
      · exact h
      · rw [Array.getElem?_eq_none h] at hc; cases hc
    rw [Nat.mod_eq_of_lt (by omega)] at hu
    have hz : (ts.zip ks)[i]? = some (u, k) := by rw [List.getElem?_zip_eq_some]; exact ⟨hu, hk⟩
    have hku := List.all_eq_true.1 hall.2 (u, k) (List.mem_of_getElem? hz)
    simp only at hku
    split at hku
    · rename_i k' hk'
      obtain rfl := of_decide_eq_true hku
      simp only [Cell.okWide, hk', Cell.ok] at hcu
      split at hcu <;> simp_all [IntKind.has]
    · cases hku
  have key : ∀ (ks : List IntKind) (l : List Value), l.length = ks.length → (∀ (i : Nat) (c : Value) (k : IntKind), l[i]? = some c → ks[i]? = some k → ∃ m : Int, c = Value.int k m ∧ k.min ≤ m ∧ m ≤ k.max) →
      ∃ ns : List Int, l = List.zipWith Value.int ks ns ∧ ns.length = ks.length ∧ ∀ (i : Nat) (k : IntKind) (x : Int), ks[i]? = some k → ns[i]? = some x → k.min ≤ x ∧ x ≤ k.max := by
    intro ks
    induction ks with
    | nil => intro l hl _; exact ⟨[], by simpa using hl, rfl, fun i k x h => by simp at h⟩
    | cons k ks ih =>
      intro l hl h
      cases l with
      | nil => simp at hl
      | cons c l =>
        obtain ⟨m, rfl, h1⟩ := h 0 c k rfl rfl
        obtain ⟨ns, rfl, h2, h3⟩ := ih l (by simpa using hl) (fun i c k hc hk => h (i + 1) c k (by simpa using hc) (by simpa using hk))
        refine ⟨m :: ns, rfl, by simp [h2], fun i k' x hk hx => ?_⟩
        cases i with
        | zero => simp at hk hx; subst hk; subst hx; exact h1
        | succ i => exact h3 i k' x (by simpa using hk) (by simpa using hx)
  obtain ⟨ns, h1, h2, h3⟩ := key ks cs.toList (by simp; omega) (fun i c k hc hk => hint i c k (by simpa using hc) hk)
  exact ⟨ns, by rw [← h1], by omega, h3⟩
end
theorem relVs_mix {σ : Inj} : ∀ (ks : List IntKind) (ns : List Int), RelVs σ (List.zipWith AV.int ks ns) (List.zipWith Value.int ks ns)
  | [], _ => by simpa using RelVs.nil
  | _ :: _, [] => by simpa using RelVs.nil
  | k :: ks, n :: ns => by simpa using RelVs.cons (.int _ _) (relVs_mix ks ns)
theorem relV_mix {σ : Inj} (ks : List IntKind) (ns : List Int) : RelV σ (.agg (List.zipWith AV.int ks ns)) (.agg (List.zipWith Value.int ks ns).toArray) := .agg (by simpa using relVs_mix ks ns)
end Go.Proofs.Ytbimapbcpmeooaa.AX
