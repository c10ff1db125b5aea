/- A plain reading of runs (T). -/
import Derived.Test.YtfbpgnjeafadmaaAxN
import Derived.WalkKit
import Derived.ProofKit
import Derived.OpenShut
import Derived.Below
import Derived.ChangeSame
import Derived.Carry
import Derived.ChangeSlices
/- A plain reading of runs: a law's frame. -/
namespace Go.Proofs.Ytfbpgnjeafadmaa.AX
open Go Go.RowKit Go.ChangeShapes Go.WideShapes Go.ChangeAt

section
variable {H : Type} {enc : TypeId × Value → H} {P : Program}
theorem postB {f : Func} {s : ChangeSpec} {apart fresh handsOn again : Bool} {W W' : World} {args : Array Value} {v : Value} {ds gs : List (DataW H)} {before : List MemPlace} (hb : Below W.heap.size W W')
    (hW : DataW.Whole enc P f.params.toList s.vars apart W args.toList ds gs before) {pa pv : List MemPlace} (hps : before = pa ++ pv)
    (hargs : ∀ sp : Nat → Bool, (∀ p ∈ before, sp p.block = true) → DataW.TrodAll enc P W' 0 sp true f.params.toList args.toList (s.fn H (ds ++ gs)).args pa)
    (hvars : ∀ sp : Nat → Bool, (∀ p ∈ before, sp p.block = true) → DataW.TrodVars enc P W' sp s.vars (s.fn H (ds ++ gs)).vars pv)
    (hres : ∀ (b : Nat) (sp : Nat → Bool) (hd : Bool), DataW.TrodAll enc P W' b sp hd f.resultTypes.toList (v.resultList f.resultTypes.size) (s.fn H (ds ++ gs)).results [])
    (hok : ∀ (j : Nat) (t : TypeId) (r : Value), f.resultTypes[j]? = some t → (v.resultList f.resultTypes.size)[j]? = some r → Value.okWide P W' .any 0 t r) : s.post enc P f apart fresh handsOn again W args v W' := by
  have low : ∀ p ∈ before, p.block < W.heap.size := fun p hp => hW.lt p hp
  have A := hargs (fun b => decide (b < W.heap.size)) fun p hp => decide_eq_true (low p hp)
  have V := hvars (fun b => decide (b < W.heap.size)) fun p hp => decide_eq_true (low p hp)
  have A1 := hargs (fun _ => true) fun _ _ => rfl
  have V1 := hvars (fun _ => true) fun _ _ => rfl
  obtain ⟨p1, q1, g1, g2, g3, gz, gn⟩ := id hW
  have T := trodAll_append A1 (hres 0 (fun _ => true) true)
  have hin : ∀ p, p ∈ ([] ++ pa) ++ pv → p ∈ before := fun p hp => by rw [hps]; exact hp
  refine ⟨ds, gs, before, [], pa, pv, hW, hres _ _ _, A, V, World.keptBut_mono (fun p hp => ⟨hp, .inr (List.mem_append.1 (hps ▸ hp))⟩) (hb.frame fun p => p ∈ before), fun _ => ⟨hok, _, _, _, ⟨_, pv, T, V1, rfl, fun b off hp => ?_, fun ha => ?_⟩, fun p hp _ => hin p hp⟩⟩
  · rw [hb.frozen (low _ (hin _ hp))]
    exact gz b off (hin _ hp)
  · have := gn ha
    rw [hps] at this
    exact this

/-- Types that can be read. -/
def rowed (P : Program) (ts : List TypeId) : Bool := ts.all fun t => P.readableRec t && decide (t < P.types.size)

theorem trodAll_stays (hl : laidOutB P = true) {W W' : World} (hb : Below W.heap.size W W') {sp : Nat → Bool} : ∀ {ts : List TypeId} {vs : List Value} {ds : List (DataW H)} {ps : List MemPlace}, rowed P ts = true →
    DataW.TrodAll enc P W 0 (fun _ => true) true ts vs ds ps → (∀ p ∈ ps, p.block < W.heap.size) → (∀ p ∈ ps, sp p.block = true) → DataW.TrodAll enc P W' 0 sp true ts vs ds ps := by
  intro ts
  induction ts with
  | nil =>
    intro vs ds ps _ h _ _
    obtain ⟨rfl, rfl, rfl⟩ := trodAll_nil h
    exact trodAll_mk0
  | cons t ts ih =>
    intro vs ds ps hr h hlt hs
    obtain ⟨v0, vs0, d0, ds0, p0, q0, rfl, rfl, rfl, h0, r0⟩ := trodAll_cons h
    simp only [rowed, List.all_cons, Bool.and_eq_true, decide_eq_true_eq] at hr
    refine trodAll_cons_mk ?_ (ih (by simp only [rowed]; exact hr.2) r0 (fun p hp => hlt p (by simp [hp])) (fun p hp => hs p (by simp [hp])))
    exact WideElems.Trod_stays hl hr.1.1 hr.1.2 h0 (fun x hx => hb.same (hlt x (by simp [hx]))) (fun x hx => hs x (by simp [hx]))

/-- A law whose call leaves all that was there as it was. -/
theorem law_post {f : Func} {s : ChangeSpec} {apart fresh handsOn again : Bool} {W W' : World} {args : Array Value} {ds : List (DataW H)} {before : List MemPlace} (hb : Below W.heap.size W W') (hl : laidOutB P = true) (hr : rowed P f.params.toList = true)
    (hv : s.vars = []) {tb : TypeId} (hres : f.resultTypes = #[tb]) (htb : P.underlying tb = some .bool)
    (hW : DataW.Whole enc P f.params.toList s.vars apart W args.toList ds [] before) (hA : DataW.TrodAll enc P W 0 (fun _ => true) true f.params.toList args.toList ds before)
    (hfa : (s.fn H (ds ++ [])).args = ds) (hfr : (s.fn H (ds ++ [])).results = [.lit (.bool true)]) (hfv : (s.fn H (ds ++ [])).vars = []) : s.post enc P f apart fresh handsOn again W args (.bool true) W' := by
  refine postB hb hW (pa := before) (pv := []) (by simp) (fun sp hs => ?_) (fun sp hs => ?_) (fun b sp hd => ?_) ?_
  · rw [hfa]
    exact trodAll_stays hl hb hr hA (fun p hp => hW.lt p hp) hs
  · rw [hfv, hv]; rfl
  · rw [hfr, hres]
    exact trodAll_cons_mk (shut_bool htb _) trodAll_mk0
  · exact ok_one hres rfl (okWide_bool_mk htb _)
end

/-! ### What a call begins with -/
section
variable {P : Program}

def cellsOf0 (W : World) (b : Nat) : Array Value := match W.heap[b]? with | some (.cells C _ _) => C | _ => #[]
def H0 (W : World) (bs : List Nat) : AH := bs.map fun b => .row ((cellsOf0 W b).toList.map (absV 3)) 0 0 true
def inj0 (W : World) (bs : List Nat) : Inj := ⟨fun r => bs.getD r 0, fun b => (bs.idxOf? b).map fun i => (i, 0, (cellsOf0 W b).size), fun _ => 0, fun _ => none, fun _ => 0, fun _ => none⟩

theorem idxOf_some {bs : List Nat} {b i : Nat} (h : bs.idxOf? b = some i) : bs[i]? = some b := by
  have := List.idxOf?_eq_some_iff.1 h
  obtain ⟨h1, h2, -⟩ := this
  rw [List.getElem?_eq_getElem h1]
  simp_all
theorem idxOf_nodup {bs : List Nat} (hn : bs.Nodup) {b i : Nat} (h : bs[i]? = some b) : bs.idxOf? b = some i := by
  rw [List.idxOf?_eq_some_iff]
  obtain ⟨hi, rfl⟩ := List.getElem?_eq_some_iff.1 h
  refine ⟨hi, by simp, fun j hj => ?_⟩
  intro he
  have := (List.getElem_inj hn).1 he
  omega

theorem sim0 {W : World} {bs : List Nat} (hn : bs.Nodup) (hb : ∀ b ∈ bs, ∃ C e fz, W.heap[b]? = some (.cells C e fz)) : Sim W.heap.size W (inj0 W bs) (H0 W bs) W := by
  have hlt : ∀ b ∈ bs, b < W.heap.size := fun b h => by
    obtain ⟨C, e, fz, hc⟩ := hb b h
    exact (Array.getElem?_eq_some_iff.1 hc).1
  have hfam : ∀ {b r d n}, (inj0 W bs).fam b = some (r, d, n) → bs[r]? = some b ∧ d = 0 ∧ n = (cellsOf0 W b).size := by
    intro b r d n h
    simp only [inj0, Option.map_eq_some_iff] at h
    obtain ⟨i, hi, h⟩ := h
    cases h
    exact ⟨idxOf_some hi, rfl, rfl⟩
  refine ⟨.refl _ _, Nat.le_refl _, ?_, fun r b h => by simp [inj0] at h, ?_, ?_, fun r g c h => by simp [H0] at h, fun r s pe L h => by simp [H0] at h, fun b k h => by simp [inj0] at h, fun r r' b h => by simp [inj0] at h, fun r s pos h => by simp [H0] at h⟩
  · intro b r d n h
    obtain ⟨h1, -, -⟩ := hfam h
    refine ⟨?_, hlt b (List.mem_of_getElem? h1)⟩
    simp only [H0, List.length_map]
    exact (List.getElem?_eq_some_iff.1 h1).1
  · intro r cells ver stale ro h
    simp only [H0, List.getElem?_map, Option.map_eq_some_iff] at h
    obtain ⟨b, hr, h⟩ := h
    cases h
    obtain ⟨C, e, fz, hc⟩ := hb b (List.mem_of_getElem? hr)
    have hcells : cellsOf0 W b = C := by simp [cellsOf0, hc]
    have hcan : (inj0 W bs).canon r = b := by simp [inj0, List.getD, hr]
    have hat : ∀ (p : Nat) (v : AV), ((cellsOf0 W b).toList.map (absV 3))[p]? = some v → CellAt (inj0 W bs) W b (0 + p) v := by
      intro p v hp
      simp only [List.getElem?_map, Option.map_eq_some_iff, Array.getElem?_toList, hcells] at hp
      obtain ⟨c, hp, rfl⟩ := hp
      refine .inr ⟨p, c, by omega, ?_, relV_absV _ 3 c⟩
      rw [cell_of hc]; exact hp
    refine ⟨rfl, rfl, ⟨0, (cellsOf0 W b).size, ?_, fun p v hp => ?_⟩, ?_⟩
    · rw [hcan]; simp [inj0, idxOf_nodup hn hr]
    · rw [hcan]; exact hat p v hp
    · intro b' d n hf
      obtain ⟨h1, rfl, rfl⟩ := hfam hf
      rw [hr] at h1; cases h1
      exact ⟨(fun h => by cases h), ⟨C, e, fz, hc, by rw [hcells], (fun h => by cases h)⟩, fun p v hp => by omega⟩
  · intro r l h
    simp [H0] at h

/-- A slice of ints that came in. -/
structure Came (W : World) (v : Value) (k : IntKind) (l : List Int) : Prop where
  all : (v = .slice none 0 0 ∧ l = []) ∨ ∃ b o cap C e fz, v = .slice (some ⟨b, o, none⟩) l.length cap ∧ l.length ≤ cap ∧ W.heap[b]? = some (.cells C e fz) ∧ (cap ≠ 0 → o + cap ≤ C.size) ∧ ∀ i (h : i < l.length), C[o + i]? = some (.int k l[i])
  wf : ∀ n ∈ l, (Lit.int k n).wf = true
  max : l.length ≤ maxLen

theorem came {H : Type} {enc : TypeId × Value → H} {t e : TypeId} {k : IntKind} {W : World} {base : Nat} {v : Value} {d : DataW H} {ps : List MemPlace} (ht : P.underlying t = some (.slice e)) (he : P.underlying e = some (.int k)) (hc : P.cellsOf e = 1)
    (hok : Value.okWide P W .any base t v) (h : DataW.Trod enc P W 0 (fun _ => true) true t v d ps) : ∃ l, Came W v k l := by
  obtain ⟨a0, len0, cap0, rfl⟩ := okWide_slice ht hok
  obtain ⟨n, hn⟩ := h
  have hcells : (Value.slice a0 len0 cap0).cells.toList = [.slice a0 len0 cap0] := rfl
  rw [hcells] at hn
  rcases open_ints ht he hc hn with ⟨hcs, -⟩ | ⟨a, len, cap, zs, hcs, -, hl, hm, hz, -, hcell, hwz⟩
  · cases hcs
    exact ⟨[], .inl ⟨rfl, rfl⟩, by simp, by simp⟩
  · cases hcs
    simp only [if_true] at hz
    have hhas : W.has P .any base a e cap0 := by
      simp only [Value.okWide, ht, Cell.okWide, Cell.ok] at hok
      exact hok.2.2
    obtain ⟨-, hsp, row, cells, hsh, -⟩ := hhas
    obtain ⟨b, o, sp⟩ := a
    simp only at hsp hsh
    subst hsp
    have hblk : ∃ C et fz, W.heap[b]? = some (.cells C et fz) := by
      unfold World.shape? at hsh
      cases hh : W.heap[b]? with
      | none => rw [hh] at hsh; simp at hsh
      | some ob =>
        rw [hh] at hsh
        cases ob with
        | cells C et fz => exact ⟨C, et, fz, rfl⟩
        | _ => simp at hsh
    obtain ⟨C, et, fz, hC⟩ := hblk
    have hget : ∀ i, i < cap0 → C[o + i]? = some (.int k (zs.getD i 0)) := by
      intro i hi
      have := hcell i (by omega)
      have e1 : (⟨b, o, none⟩ : Addr).add i = ⟨b, o + i, none⟩ := Addr.add_mid b o i
      rw [e1, cell_of hC] at this
      exact this
    have hlen : (zs.take len0).length = len0 := by simp; omega
    refine ⟨zs.take len0, .inr ⟨b, o, cap0, C, et, fz, by rw [hlen], by omega, hC, fun h0 => ?_, fun i hi => ?_⟩, fun n hn => hwz n (List.mem_of_mem_take hn), by omega⟩
    · have := hget (cap0 - 1) (by omega)
      have := (Array.getElem?_eq_some_iff.1 this).1
      omega
    · rw [hlen] at hi
      rw [hget i (by omega)]
      simp [List.getD, show i < zs.length by omega]

def blockOf : Value → List Nat
  | .slice (some a) _ _ => [a.block]
  | _ => []
theorem Came.block {W : World} {v : Value} {k : IntKind} {l : List Int} (h : Came W v k l) : ∀ b ∈ blockOf v, ∃ C e fz, W.heap[b]? = some (.cells C e fz) := by
  rcases h.all with ⟨rfl, -⟩ | ⟨b, o, cap, C, e, fz, rfl, -, hC, -⟩
  · intro b hb; simp [blockOf] at hb
  · intro b' hb; simp [blockOf] at hb; subst hb; exact ⟨C, e, fz, hC⟩

/-- The blocks of many slices, each once. -/
def blocksOf : List Value → List Nat
  | [] => []
  | v :: vs => match blockOf v with
    | [] => blocksOf vs
    | b :: _ => if b ∈ blocksOf vs then blocksOf vs else b :: blocksOf vs
/-- It reads as a list. -/
theorem Came.ls {W : World} {v : Value} {k : IntKind} {l : List Int} (h : Came W v k l) {bs : List Nat} (hn : bs.Nodup) (hb : ∀ b ∈ blockOf v, b ∈ bs) :
    ∃ a, RelV (inj0 W bs) a v ∧ ∃ r off ver sz full, a = .slice r off l.length ver sz full ∧ ∀ i (h : i < l.length), ∃ r', r = some r' ∧ sz = 1 ∧ ld (H0 W bs) r' (off + i) ver = some (.int k l[i]) := by
  rcases h.all with ⟨rfl, rfl⟩ | ⟨b, o, cap, C, e, fz, rfl, hlc, hC, hcap, hget⟩
  · exact ⟨.slice none 0 0 0 1 false, .nilslice, none, 0, 0, 1, false, rfl, fun i h => by simp at h⟩
  · obtain ⟨i0, hi0, he0⟩ := List.mem_iff_getElem.1 (hb b (by simp [blockOf]))
    have hi0' : bs[i0]? = some b := by rw [List.getElem?_eq_getElem hi0, he0]
    have hcells : cellsOf0 W b = C := by simp [cellsOf0, hC]
    refine ⟨.slice (some i0) o l.length 0 1 false, ?_, some i0, o, 0, 1, false, rfl, fun i hi => ⟨i0, rfl, rfl, ?_⟩⟩
    · refine .slice (d := 0) (n := (cellsOf0 W b).size) ?_ (Nat.le_refl _) (fun _ => ?_) hlc (fun h0 => ⟨by simp, ?_, rfl⟩) (fun h => by cases h) (fun _ => Nat.zero_le _)
      · simp [inj0, idxOf_nodup hn hi0']
      · simp [inj0, List.getD, hi0']
      · rw [hcells]; simpa using hcap h0
    · have hrow : (H0 W bs)[i0]? = some (.row (C.toList.map (absV 3)) 0 0 true) := by simp [H0, hi0', hcells]
      simp only [ld, hrow]
      rw [if_pos (.inl trivial), List.getElem?_map, Array.getElem?_toList, hget i hi]
      rfl

/-- A struct whose first field is a slice. -/
def headT (P : Program) (t ts : TypeId) : Bool := match P.underlying t with
  | some (.struct fs) => match fs.toList with | f :: _ => f.type == ts && f.offset == 0 | _ => false
  | _ => false
/-- From a statement about rows to the call. -/
theorem AC.law {f : FuncId} {args : List AV} {cargs : Array Value} {W : World} {σ : Inj} {H : AH} {Q : AV → AH → Prop} (h : AC P f args H Q) (S : Sim W.heap.size W σ H W) (hr : RelVs σ args cargs.toList) (hq : ∀ v H', Q v H' → v = .bool true) :
    Calls P f cargs W fun e w' => e = .returned (.bool true) ∧ Below W.heap.size W w' := by
  refine (h W.heap.size W σ W cargs S hr).mono ?_
  rintro en w' ⟨c, σ', v, H', rfl, -, h3, h4, h5⟩
  have := hq _ _ h5
  subst this
  exact ⟨by rw [relV_bool h4], h3.below⟩
end
end Go.Proofs.Ytfbpgnjeafadmaa.AX

/- A plain reading of runs: a struct of ints of several kinds, in a law's frame. -/
namespace Go.Proofs.Ytfbpgnjeafadmaa.AX
open Go Go.RowKit

section
variable {P : Program}
theorem agg_mix {t : TypeId} {ks : List IntKind} {n : Nat} {W : World} {base : Nat} {v : Value} {ts : List TypeId} (hd : (match P.underlying t with | some (.struct _) => true | some (.array _ _) => true | _ => false) = true) (ht : P.cellTypes P.depth t = some ts)
    (hall : (ts.length == ks.length && (ts.zip ks).all (fun x => match P.underlying x.1 with | some (.int k') => decide (k' = x.2) | _ => false)) = true) (hn : P.cellsOf t = n) (hnk : n = ks.length) (hok : Value.okWide P W .any base t v) :
    ∃ ns : List Int, v = .agg (List.zipWith Value.int ks ns).toArray ∧ ns.length = n ∧ ∀ (i : Nat) (k : IntKind) (x : Int), ks[i]? = some k → ns[i]? = some x → k.min ≤ x ∧ x ≤ k.max := by
  have h : ∃ cs, v = .agg cs ∧ cs.size = P.cellsOf t ∧ Row.okWide P W .any base t cs := by
    unfold Value.okWide at hok
    split at hok
    · exact hok
    · exact hok
    · rename_i h1 h2
      split at hd
      · rename_i hu; exact absurd hu (h1 _)
      · rename_i hu; exact absurd hu (h2 _ _)
      · cases hd
  obtain ⟨cs, rfl, hsz, ts', hts, -, hcell⟩ := h
  rw [ht] at hts
  cases hts
  simp only [Bool.and_eq_true, beq_iff_eq] at hall
  have hint : ∀ (i : Nat) (c : Value) (k : IntKind), cs[i]? = some c → ks[i]? = some k → ∃ m : Int, c = Value.int k m ∧ k.min ≤ m ∧ m ≤ k.max := by
    intro i c k hc hk
    obtain ⟨u, hu, hcu⟩ := hcell i c hc
    have hi : i < cs.size := by
      rcases Nat.lt_or_ge i cs.size with h | h
      · exact h
      · rw [Array.getElem?_eq_none h] at hc; cases hc
    rw [Nat.mod_eq_of_lt (by omega)] at hu
    have hz : (ts.zip ks)[i]? = some (u, k) := by rw [List.getElem?_zip_eq_some]; exact ⟨hu, hk⟩
    have hku := List.all_eq_true.1 hall.2 (u, k) (List.mem_of_getElem? hz)
    simp only at hku
    split at hku
    · rename_i k' hk'
      obtain rfl := of_decide_eq_true hku
      simp only [Cell.okWide, hk', Cell.ok] at hcu
      split at hcu <;> simp_all [IntKind.has]
    · cases hku
  have key : ∀ (ks : List IntKind) (l : List Value), l.length = ks.length → (∀ (i : Nat) (c : Value) (k : IntKind), l[i]? = some c → ks[i]? = some k → ∃ m : Int, c = Value.int k m ∧ k.min ≤ m ∧ m ≤ k.max) →
      ∃ ns : List Int, l = List.zipWith Value.int ks ns ∧ ns.length = ks.length ∧ ∀ (i : Nat) (k : IntKind) (x : Int), ks[i]? = some k → ns[i]? = some x → k.min ≤ x ∧ x ≤ k.max := by
    intro ks
    induction ks with
    | nil => intro l hl _; exact ⟨[], by simpa using hl, rfl, fun i k x h => by simp at h⟩
    | cons k ks ih =>
      intro l hl h
      cases l with
      | nil => simp at hl
      | cons c l =>
        obtain ⟨m, rfl, h1⟩ := h 0 c k rfl rfl
        obtain ⟨ns, rfl, h2, h3⟩ := ih l (by simpa using hl) (fun i c k hc hk => h (i + 1) c k (by simpa using hc) (by simpa using hk))
        refine ⟨m :: ns, rfl, by simp [h2], fun i k' x hk hx => ?_⟩
        cases i with
        | zero => simp at hk hx; subst hk; subst hx; exact h1
        | succ i => exact h3 i k' x (by simpa using hk) (by simpa using hx)
  obtain ⟨ns, h1, h2, h3⟩ := key ks cs.toList (by simp; omega) (fun i c k hc hk => hint i c k (by simpa using hc) hk)
  exact ⟨ns, by rw [← h1], by omega, h3⟩
end
theorem relVs_mix {σ : Inj} : ∀ (ks : List IntKind) (ns : List Int), RelVs σ (List.zipWith AV.int ks ns) (List.zipWith Value.int ks ns)
  | [], _ => by simpa using RelVs.nil
  | _ :: _, [] => by simpa using RelVs.nil
  | k :: ks, n :: ns => by simpa using RelVs.cons (.int _ _) (relVs_mix ks ns)
theorem relV_mix {σ : Inj} (ks : List IntKind) (ns : List Int) : RelV σ (.agg (List.zipWith AV.int ks ns)) (.agg (List.zipWith Value.int ks ns).toArray) := .agg (by simpa using relVs_mix ks ns)
end Go.Proofs.Ytfbpgnjeafadmaa.AX
