/- A plain reading of runs (O). -/
import Derived.Test.YtbimapbcpmeooaaAxX
import Derived.Test.YtbimapbcpmeooaaAxP
/- A plain reading of runs: stepping through a statement whose order is open. -/
namespace Go.Proofs.Ytbimapbcpmeooaa.AX
open Go Go.RowKit

def wpT (P : Program) (nt : Nat) (ops : Array Oper) : List Oper → Env → AH → (Env → AH → Prop) → Prop
  | [], e, H, K => K e H
  | o :: rest, e, H, K =>
    wantS (wantedT ops e o)
      (dstOk nt o.dst = true ∧
        if isFnCall o.op then callS (opCall P (oval e) o.op) fun f args => ∃ v H1, AC P f args H (fun v' H' => v' = v ∧ H' = H1) ∧ wpT P nt ops rest (putDst e o.dst (some v)) H1 K
        else resS (execN P (oval e) H o.op) fun v H' => wpT P nt ops rest (putDst e o.dst v) H' K)
      (wpT P nt ops rest (putSkip e o.dst) H K)

section
variable {P : Program} {nt : Nat} {ops : Array Oper} {e : Env} {H : AH}

theorem wpT_trace : ∀ {l : List Oper} {e : Env} {H : AH} {K : Env → AH → Prop}, wpT P nt ops l e H K → ∃ tr e' H', Trace P nt ops l e H tr e' H' ∧ K e' H'
  | [], e, H, K, h => ⟨[], e, H, .nil _ _, h⟩
  | o :: rest, e, H, K, h => by
    simp only [wpT] at h
    cases hw : wantedT ops e o with
    | none => rw [hw] at h; exact h.elim
    | some b =>
      rw [hw] at h
      cases b with
      | false =>
        obtain ⟨tr, e', H', h1, h2⟩ := wpT_trace (h.2 rfl)
        exact ⟨_, e', H', .skipT hw (by rw [putDst_skip]; exact h1), h2⟩
      | true =>
        obtain ⟨hd, h⟩ := h.1 rfl
        have hw := wantedT_true hw
        split at h
        · cases hc : opCall P (oval e) o.op with
          | none => rw [hc] at h; exact h.elim
          | some x =>
            obtain ⟨f, args⟩ := x
            rw [hc] at h
            obtain ⟨v, H1, hAC, h⟩ := h
            obtain ⟨tr, e', H', h1, h2⟩ := wpT_trace h
            exact ⟨_, e', H', .call hw hc hd hAC h1, h2⟩
        · cases hx : execN P (oval e) H o.op with
          | none => rw [hx] at h; exact h.elim
          | some x =>
            obtain ⟨v, H'⟩ := x
            rw [hx] at h
            obtain ⟨tr, e', H', h1, h2⟩ := wpT_trace h
            exact ⟨_, e', H', .op hw hx hd h1, h2⟩

theorem AW_drawT (hm : P.follows .mixedOrders = true) {id : Nat} {Q : Ex → Env → AH → Prop} (ks : List Nat) (hs : drawS ops = true) (h : wpT P nt ops ops.toList e H fun e' H' => Q .normal (ekeep ks e') H') : AW P nt (.region id ops true) e H Q := by
  obtain ⟨tr, e', H', hT, hq⟩ := wpT_trace h
  refine AW_draw hm ks hT ⟨?_, readsOK_of_drawS hs tr⟩ hq
  simp only [drawS, Bool.and_eq_true] at hs
  exact hs.1

/-- The region that comes first, its order open. -/
theorem L_regT (hm : P.follows .mixedOrders = true) {id : Nat} {l : List Oper} {cs : List Code} {Q : Ex → Env → AH → Prop} (ks : List Nat) (hs : drawS l.toArray = true) (h : ∀ K : Env → AH → Prop, (∀ e' H', AWL P nt cs e' H' Q → K e' H') → wpT P nt l.toArray l e H fun e H => K (ekeep ks e) H) :
    AWL P nt (.region id l.toArray true :: cs) e H Q :=
  AWL_cons (AW_drawT hm ks hs (h (fun e' H' => AWL P nt cs e' H' Q) fun _e' _H' h => h))

@[congr] theorem c_wpT {l : List Oper} {e e' : Env} {H H' : AH} {K : Env → AH → Prop} (h : e = e') (h' : H = H') : wpT P nt ops l e H K = wpT P nt ops l e' H' K := by rw [h, h']
@[simp] theorem t_nil (K : Env → AH → Prop) : wpT P nt ops [] e H K = K e H := rfl
def exC (P : Program) (H : AH) (f : FuncId) (args : List AV) (K : AV → AH → Prop) : Prop := ∃ v H1, AC P f args H (fun v' H' => v' = v ∧ H' = H1) ∧ K v H1
@[congr] theorem c_exC {f : FuncId} {as bs : List AV} {H H' : AH} {Q : AV → AH → Prop} (h : as = bs) (h' : H = H') : exC P H f as Q = exC P H' f bs Q := by rw [h, h']
@[simp] theorem t_consN (d : Option Tmp) (op : Op) (t : TypeId) (p : String) (af : Array Edge) (rest : List Oper) (K : Env → AH → Prop) : wpT P nt ops (⟨d, op, t, p, af, none⟩ :: rest) e H K =
      (dstOk nt d = true ∧
        if isFnCall op then callS (opCall P (oval e) op) fun f args => exC P H f args (holdQ (fun v H' => wpT P nt ops rest (putDst e d (some v)) H' K) ⟨⟩)
        else resS (execN P (oval e) H op) (holdQ (fun v H' => wpT P nt ops rest (putDst e d v) H' K) ⟨⟩)) := by
  simp only [wpT, wantedT, wantS, holdQ, exC]
  simp
@[simp] theorem t_consG (d : Option Tmp) (op : Op) (t : TypeId) (p : String) (af : Array Edge) (j : Nat) (want : Bool) (rest : List Oper) (K : Env → AH → Prop) : wpT P nt ops (⟨d, op, t, p, af, some (j, want)⟩ :: rest) e H K = wantS (guardT (slotV e (slotOf ops j)) want)
      (dstOk nt d = true ∧
        if isFnCall op then callS (opCall P (oval e) op) fun f args => exC P H f args (holdQ (fun v H' => wpT P nt ops rest (putDst e d (some v)) H' K) ⟨⟩)
        else resS (execN P (oval e) H op) (holdQ (fun v H' => wpT P nt ops rest (putDst e d v) H' K) ⟨⟩))
      (wpT P nt ops rest (putSkip e d) H K) := by
  have : wantedT ops e ⟨d, op, t, p, af, some (j, want)⟩ = guardT (slotV e (slotOf ops j)) want := by
    unfold wantedT slotOf slotV
    simp only []
    cases (ops[j]?).bind (·.dst) <;> rfl
  rw [wpT, this]
  rfl
theorem exC_mk {f : FuncId} {args : List AV} {K : AV → AH → Prop} {v : AV} {H1 : AH} (h : ∀ Q : AV → AH → Prop, Q v H1 → AC P f args H Q) (hk : K v H1) : exC P H f args K := ⟨v, H1, h _ ⟨rfl, rfl⟩, hk⟩

/-! ### Regions whose calls leave all rows alone -/
def exQ (P : Program) (H : AH) (f : FuncId) (args : List AV) (K : AV → AH → Prop) : Prop := ∃ v, AC P f args H (fun v' H' => v' = v ∧ H' = H) ∧ K v H
@[congr] theorem c_exQ {f : FuncId} {as bs : List AV} {H H' : AH} {Q : AV → AH → Prop} (h : as = bs) (h' : H = H') : exQ P H f as Q = exQ P H' f bs Q := by rw [h, h']
theorem exQ_mk {f : FuncId} {args : List AV} {K : AV → AH → Prop} {v : AV} (h : ∀ Q : AV → AH → Prop, Q v H → AC P f args H Q) (hk : K v H) : exQ P H f args K := ⟨v, h _ ⟨rfl, rfl⟩, hk⟩
def wpQ (P : Program) (nt : Nat) (ops : Array Oper) : List Oper → Env → AH → (Env → AH → Prop) → Prop
  | [], e, H, K => K e H
  | o :: rest, e, H, K =>
    wantS (wantedA ops e o)
      (dstOk nt o.dst = true ∧
        if isFnCall o.op then callS (opCall P (oval e) o.op) fun f args => exQ P H f args fun v H' => wpQ P nt ops rest (putDst e o.dst (some v)) H' K
        else resS (execN P (oval e) H o.op) fun v H' => wpQ P nt ops rest (putDst e o.dst v) H' K)
      (wpQ P nt ops rest (putDst e o.dst none) H K)
def quietS (ops : Array Oper) : Bool := ordOK ops && ops.toList.all fun o => !isW o.op || isFnCall o.op

theorem wpQ_trace : ∀ {l : List Oper} {e : Env} {H : AH} {K : Env → AH → Prop}, (∀ o ∈ l, isW o.op = true → isFnCall o.op = true) → wpQ P nt ops l e H K → ∃ tr e', Trace P nt ops l e H tr e' H ∧ (∀ r ∈ tr, r.H = H ∧ r.H' = H) ∧ K e' H
  | [], e, H, K, _, h => ⟨[], e, .nil _ _, by simp, h⟩
  | o :: rest, e, H, K, hq, h => by
    have hq' : ∀ o ∈ rest, isW o.op = true → isFnCall o.op = true := fun p hp => hq p (List.mem_cons_of_mem _ hp)
    simp only [wpQ] at h
    cases hw : wantedA ops e o with
    | none => rw [hw] at h; exact h.elim
    | some b =>
      rw [hw] at h
      cases b with
      | false =>
        obtain ⟨tr, e', h1, h2, h3⟩ := wpQ_trace hq' (h.2 rfl)
        exact ⟨_, e', .skip hw h1, by simp; exact h2, h3⟩
      | true =>
        obtain ⟨hd, h⟩ := h.1 rfl
        split at h
        · cases hc : opCall P (oval e) o.op with
          | none => rw [hc] at h; exact h.elim
          | some x =>
            obtain ⟨f, args⟩ := x
            rw [hc] at h
            obtain ⟨v, hAC, h⟩ := h
            obtain ⟨tr, e', h1, h2, h3⟩ := wpQ_trace hq' h
            exact ⟨_, e', .call hw hc hd hAC h1, by simp; exact h2, h3⟩
        · rename_i hnf
          cases hx : execN P (oval e) H o.op with
          | none => rw [hx] at h; exact h.elim
          | some x =>
            obtain ⟨v, H1⟩ := x
            have hnw : isW o.op = false := by
              cases hW : isW o.op with
              | false => rfl
              | true => exact absurd (hq o (by simp) hW) hnf
            have := execN_same hnw hx
            subst this
            rw [hx] at h
            obtain ⟨tr, e', h1, h2, h3⟩ := wpQ_trace hq' h
            exact ⟨_, e', .op hw hx hd h1, by simp; exact h2, h3⟩

/-- The region that comes first, its order open, where nothing is written. -/
theorem L_regQ (hm : P.follows .mixedOrders = true) {id : Nat} {l : List Oper} {cs : List Code} {Q : Ex → Env → AH → Prop} (ks : List Nat) (hs : quietS l.toArray = true) (h : ∀ K : Env → AH → Prop, (∀ e' H', AWL P nt cs e' H' Q → K e' H') → wpQ P nt l.toArray l e H fun e H => K (ekeep ks e) H) :
    AWL P nt (.region id l.toArray true :: cs) e H Q := by
  have h' := h (fun e' H' => AWL P nt cs e' H' Q) fun e' H' h => h
  simp only [quietS, Bool.and_eq_true, List.all_eq_true, Bool.or_eq_true, Bool.not_eq_true'] at hs
  obtain ⟨tr, e', hT, hr, hk⟩ := wpQ_trace (fun o ho hW => by rcases hs.2 o ho with h1 | h1; rw [hW] at h1; cases h1; exact h1) h'
  refine AWL_cons (AW_draw hm ks hT ⟨hs.1, ?_⟩ hk)
  intro i j o p r s ho hp hri hsj hR hW hw h1 h2
  have e1 := hr r (List.mem_of_getElem? hri)
  have e2 := hr s (List.mem_of_getElem? hsj)
  have hd := hT.did i o r (by simpa using ho) hri
  have hR' := isR_notW hR
  rcases hd with ⟨h3, -, -⟩ | ⟨-, -, h3⟩ | ⟨h3, -, -⟩
  · rw [hw] at h3; cases h3
  · rcases h3 with h3 | ⟨f, args, v, h3, -⟩
    · rw [e1.1, e1.2] at h3
      rw [e2.1, e2.2]
      exact ⟨h3, h3⟩
    · have := opCall_isW h3; rw [hR'] at this; cases this
  · rw [wantedA_T hw] at h3; cases h3

@[congr] theorem c_wpQ {l : List Oper} {e e' : Env} {H H' : AH} {K : Env → AH → Prop} (h : e = e') (h' : H = H') : wpQ P nt ops l e H K = wpQ P nt ops l e' H' K := by rw [h, h']
@[simp] theorem q_nil (K : Env → AH → Prop) : wpQ P nt ops [] e H K = K e H := rfl
@[simp] theorem q_consN (d : Option Tmp) (op : Op) (t : TypeId) (p : String) (af : Array Edge) (rest : List Oper) (K : Env → AH → Prop) : wpQ P nt ops (⟨d, op, t, p, af, none⟩ :: rest) e H K =
      (dstOk nt d = true ∧
        if isFnCall op then callS (opCall P (oval e) op) fun f args => exQ P H f args (holdQ (fun v H' => wpQ P nt ops rest (putDst e d (some v)) H' K) ⟨⟩)
        else resS (execN P (oval e) H op) (holdQ (fun v H' => wpQ P nt ops rest (putDst e d v) H' K) ⟨⟩)) := by
  simp only [wpQ, wantedA, wantS, holdQ]
  simp
@[simp] theorem q_consG (d : Option Tmp) (op : Op) (t : TypeId) (p : String) (af : Array Edge) (j : Nat) (want : Bool) (rest : List Oper) (K : Env → AH → Prop) : wpQ P nt ops (⟨d, op, t, p, af, some (j, want)⟩ :: rest) e H K = wantS (guardVal (slotV e (slotOf ops j)) want)
      (dstOk nt d = true ∧
        if isFnCall op then callS (opCall P (oval e) op) fun f args => exQ P H f args (holdQ (fun v H' => wpQ P nt ops rest (putDst e d (some v)) H' K) ⟨⟩)
        else resS (execN P (oval e) H op) (holdQ (fun v H' => wpQ P nt ops rest (putDst e d v) H' K) ⟨⟩))
      (wpQ P nt ops rest (putDst e d none) H K) := by
  have : wantedA ops e ⟨d, op, t, p, af, some (j, want)⟩ = guardVal (slotV e (slotOf ops j)) want := by
    unfold wantedA guardVal slotOf slotV
    simp only []
    cases (ops[j]?).bind (·.dst) <;> rfl
  rw [wpQ, this]
  rfl
/-- A part of an array behind a pointer; a part of a slice beyond its length. -/
def sliceR (P : Program) (t : TypeId) (H : AH) (x : AV) (lo hi mx : Option AV) : Option AV :=
  match P.underlying t, x with
    | some (.array n e), .ptr r off ver =>
      match P.info? e with
      | some ie =>
        if 0 < n ∧ 0 < ie.size ∧ (ld H r (off + n * ie.size - 1) ver).isSome ∧ mx.isNone = true then
          (aBounds n lo hi mx).map fun (l, h, _) => partOf (endOk H r (off + n * ie.size)) r (off + l * ie.size) (h - l) ver ie.size
        else none
      | none => none
    | some (.slice e), .slice (some r) off _ ver sz _ =>
      match P.info? e, H[r]? with
      | some ie, some (.row cells v _ false) => if v = ver ∧ ie.size = sz ∧ 0 < sz ∧ hi.isSome ∧ mx = none then
          (aBounds ((cells.length - off) / sz) lo hi none).map fun (l, h, _) => .slice (some r) (off + l * sz) (h - l) ver sz false
        else none
      | _, _ => none
    | _, _ => none
theorem aRead_slice {ρ : Operand → AV} (t : TypeId) (x : Operand) (lo hi mx : Option Operand) : aRead P ρ H (.slice t x lo hi mx) = sliceR P t H (ρ x) (lo.map ρ) (hi.map ρ) (mx.map ρ) := by
  have h : ∀ (a : Option TypeDesc) (b : AV), P.underlying t = a → ρ x = b → aRead P ρ H (.slice t x lo hi mx) = sliceR P t H (ρ x) (lo.map ρ) (hi.map ρ) (mx.map ρ) := by
    intro a b ha hb
    simp only [aRead, sliceR, ha, hb]
    cases a with
    | none => rfl
    | some d =>
      cases d <;> cases b <;> try rfl
      · rename_i r _ _ _ _ _
        cases r with
        | none => rfl
        | some r =>
          simp only [Option.isSome_map, Option.map_eq_none_iff]
          generalize P.info? _ = a1
          generalize H[r]? = a2
          cases a1 <;> cases a2 <;> rfl
      · simp only [Option.isNone_map]
        generalize P.info? _ = a1
        cases a1 <;> rfl
  exact h _ _ rfl rfl
@[simp] theorem x_slice {ρ : Operand → AV} (t : TypeId) (x : Operand) (lo hi mx : Option Operand) : execN P ρ H (.slice t x lo hi mx) = match aSlice P t (ρ x) (lo.map ρ) (hi.map ρ) (mx.map ρ) with | some v => some (some v, H) | none => (sliceR P t H (ρ x) (lo.map ρ) (hi.map ρ) (mx.map ρ)).map fun v => (some v, H) := by
  rw [← aRead_slice]; rfl
theorem slice_hi {t : TypeId} {n : Nat} (h : slSz P t = some n) (r : Option Nat) (off len ver : Nat) (full : Bool) {k : IntKind} {i : Nat} (hi : i ≤ len) : aSlice P t (.slice r off len ver n full) none (some (.int k i)) none = some (.slice r (off + 0) i ver n (full && i == len)) := by
  rw [slice_sl h]
  simp [aBounds, aBound, hi]
theorem slice_lo {t : TypeId} {n : Nat} (h : slSz P t = some n) (r : Option Nat) (off len ver : Nat) (full : Bool) {k : IntKind} {i : Nat} (hi : i ≤ len) : aSlice P t (.slice r off len ver n full) (some (.int k i)) none none = some (.slice r (off + i * n) (len - i) ver n full) := by
  rw [slice_sl h]
  simp [aBounds, aBound, hi]

/-- A slice of the call's own, its row behind the first N. -/
def OwnF (N : Nat) (H : AH) (v : AV) (l : List AV) : Prop :=
  (l = [] ∧ v = .slice none 0 0 0 1 false) ∨ ∃ r ver stale, N ≤ r ∧ v = .slice (some r) 0 l.length ver 1 false ∧ H[r]? = some (.row l ver stale false)
theorem OwnF.nil (N : Nat) (H : AH) : OwnF N H (.slice none 0 0 0 1 false) [] := .inl ⟨rfl, rfl⟩
theorem OwnF.own {N : Nat} {v : AV} {l : List AV} (h : OwnF N H v l) : Own H v l := by
  rcases h with h | ⟨r, ver, stale, -, h1, h2⟩
  · exact .inl h
  · exact .inr ⟨r, ver, stale, h1, h2⟩
theorem OwnF.len {N : Nat} {v : AV} {l : List AV} (h : OwnF N H v l) : ∃ r ver, v = .slice r 0 l.length ver 1 false := h.own.len
theorem ownF_append {H0 : AH} (hE : Ext H0 H) {t u : TypeId} (ht : elT P t = true) (hu : elT P u = true) {v x : AV} {l : List AV} {m : Nat} (ho : OwnF H0.length H v l) (hx : x.one = true) (hlen : l.length < 16777216) :
    ∃ v' H', aAppend P (H ++ [.row [x] 0 m false]) t u v (.slice (some H.length) 0 1 0 1 false) = some (v', H') ∧ OwnF H0.length H' v' (l ++ [x]) ∧ Ext H0 H' := by
  obtain ⟨e, I, h1, h2, h3, h4, -⟩ := elT_some ht
  obtain ⟨e', I', g1, -⟩ := elT_some hu
  have hsrc : aSrc P (H ++ [.row [x] 0 m false]) u 1 (.slice (some H.length) 0 1 0 1 false) = some (1, [x]) := by
    cases x <;> simp_all [aSrc, ldn, takeKnown, AV.one]
  have hle := hE.1
  unfold aAppend
  rcases ho with ⟨rfl, rfl⟩ | ⟨r, ver, stale, hr0, rfl, hr⟩
  · refine ⟨.slice (some (H.length + 1)) 0 1 0 1 false, H ++ [.row [x] 0 m false] ++ [.row [x] 0 0 false], ?_, .inr ⟨H.length + 1, 0, 0, by omega, by simp, by simp⟩, ?_⟩
    · simp [h1, h2, h3, h4, hsrc, hx]
    · rw [List.append_assoc]; exact hE.trans (.push _ _)
  · have hlt : r < H.length := (List.getElem?_eq_some_iff.1 hr).1
    have hr' : (H ++ [.row [x] 0 m false])[r]? = some (.row l ver stale false) := by rw [List.getElem?_append_left hlt]; exact hr
    refine ⟨.slice (some r) 0 (l.length + 1) (ver + 1) 1 false, (H ++ [AObj.row [x] 0 m false]).set r (AObj.row (l ++ [x]) (ver + 1) (min stale l.length) false), ?_, .inr ⟨r, ver + 1, min stale l.length, hr0, by simp, ?_⟩, ?_⟩
    · have : l.length + 1 ≤ 16777216 := hlen
      have hin : inPlace (H ++ [AObj.row [x] 0 m false]) r 0 l.length 1 ver 1 [x] = none := by simp [inPlace, hr']; omega
      simp [h1, h2, h3, h4, hsrc, hx, grow, hr', this, hin]
    · rw [List.getElem?_set]
      simp; omega
    · exact (hE.trans (.push _ _)).set _ hr0
end
end Go.Proofs.Ytbimapbcpmeooaa.AX

/- A plain reading of runs: a statement whose order is open, in which calls make rows beside what is read. -/
namespace Go.Proofs.Ytbimapbcpmeooaa.AX
open Go Go.RowKit

def exX (P : Program) (H : AH) (f : FuncId) (args : List AV) (K : AV → AH → Prop) : Prop := ∃ v H1, AC P f args H (fun v' H' => v' = v ∧ H' = H1) ∧ Ext H H1 ∧ K v H1
theorem exX_mk {P : Program} {H : AH} {f : FuncId} {args : List AV} {K : AV → AH → Prop} {v : AV} {H1 : AH} (h : ∀ Q : AV → AH → Prop, Q v H1 → AC P f args H Q) (hE : Ext H H1) (hk : K v H1) : exX P H f args K := ⟨v, H1, h _ ⟨rfl, rfl⟩, hE, hk⟩
def wpX (P : Program) (nt : Nat) (ops : Array Oper) : List Oper → Env → AH → (Env → AH → Prop) → Prop
  | [], e, H, K => K e H
  | o :: rest, e, H, K =>
    wantS (wantedA ops e o)
      (dstOk nt o.dst = true ∧
        if isFnCall o.op then callS (opCall P (oval e) o.op) fun f args => exX P H f args fun v H' => wpX P nt ops rest (putDst e o.dst (some v)) H' K
        else resS (execN P (oval e) H o.op) fun v H' => wpX P nt ops rest (putDst e o.dst v) H' K)
      (wpX P nt ops rest (putDst e o.dst none) H K)

/-- What makes rows and leaves the others. -/
def isMk (o : Op) : Bool := isFnCall o || match o with | .buildSlice .. => true | _ => false
/-- A read that is in no order with a writing stands ahead of it, and what is written up to there is by calls, and by making rows, alone. -/
def drawX (ops : Array Oper) : Bool :=
  ordOK ops && (let ms := masks ops.toList []; ops.toList.zipIdx.all fun x => !isR x.1.op || ops.toList.zipIdx.all fun y => !isW y.1.op || anc ms x.2 y.2 || anc ms y.2 x.2 ||
    (decide (x.2 < y.2) && ops.toList.zipIdx.all fun z => !isW z.1.op || isMk z.1.op || decide (y.2 < z.2)))

section
variable {P : Program} {nt : Nat} {ops : Array Oper} {e : Env} {H : AH}

theorem build_ext {P : Program} {ρ : Operand → AV} {H H' : AH} {o : Op} {v : Option AV} (hk : isMk o = true) (hf : isFnCall o ≠ true) (h : execN P ρ H o = some (v, H')) : Ext H H' := by
  cases o with
  | buildSlice t n ps =>
    rw [x_buildSlice] at h
    unfold rowV at h
    split at h
    case h_2 => cases h
    split at h
    case h_2 => cases h
    split at h
    case isFalse => cases h
    obtain ⟨cells, -, h1⟩ := Option.map_eq_some_iff.1 h
    cases h1
    exact .push _ _
  | _ => first | (simp [isMk] at hk; exact absurd hk hf) | (simp [isMk] at hk)
theorem wpX_trace : ∀ {l : List Oper} {e : Env} {H : AH} {K : Env → AH → Prop}, wpX P nt ops l e H K → ∃ tr e' H', Trace P nt ops l e H tr e' H' ∧ (∀ (i : Nat) (o : Oper) (r : Rec), l[i]? = some o → tr[i]? = some r → isMk o.op = true → Ext r.H r.H') ∧ K e' H'
  | [], e, H, K, h => ⟨[], e, H, .nil _ _, by simp, h⟩
  | o :: rest, e, H, K, h => by
    simp only [wpX] at h
    have step : ∀ {tr : List Rec} {r0 : Rec}, (isMk o.op = true → Ext r0.H r0.H') → (∀ (i : Nat) (o : Oper) (r : Rec), rest[i]? = some o → tr[i]? = some r → isMk o.op = true → Ext r.H r.H') →
        ∀ (i : Nat) (o' : Oper) (r : Rec), (o :: rest)[i]? = some o' → (r0 :: tr)[i]? = some r → isMk o'.op = true → Ext r.H r.H' := by
      intro tr r0 h1 h2 i o' r ho hr hf
      cases i with
      | zero => simp at ho hr; subst ho; subst hr; exact h1 hf
      | succ i => exact h2 i o' r (by simpa using ho) (by simpa using hr) hf
    cases hw : wantedA ops e o with
    | none => rw [hw] at h; exact h.elim
    | some b =>
      rw [hw] at h
      cases b with
      | false =>
        obtain ⟨tr, e', H', h1, h2, h3⟩ := wpX_trace (h.2 rfl)
        exact ⟨_, e', H', .skip hw h1, step (fun _ => .refl _) h2, h3⟩
      | true =>
        obtain ⟨hd, h⟩ := h.1 rfl
        split at h
        · cases hc : opCall P (oval e) o.op with
          | none => rw [hc] at h; exact h.elim
          | some x =>
            obtain ⟨f, args⟩ := x
            rw [hc] at h
            obtain ⟨v, H1, hAC, hE, h⟩ := h
            obtain ⟨tr, e', H', h1, h2, h3⟩ := wpX_trace h
            exact ⟨_, e', H', .call hw hc hd hAC h1, step (fun _ => hE) h2, h3⟩
        · rename_i hnf
          cases hx : execN P (oval e) H o.op with
          | none => rw [hx] at h; exact h.elim
          | some x =>
            obtain ⟨v, H'⟩ := x
            rw [hx] at h
            obtain ⟨tr, e', H', h1, h2, h3⟩ := wpX_trace h
            exact ⟨_, e', H', .op hw hx hd h1, step (fun hf => build_ext hf hnf hx) h2, h3⟩

theorem takeKnown_len : ∀ {n : Nat} {l vs : List AV}, takeKnown n l = some vs → True := fun _ => trivial
theorem execN_ext {ρ : Operand → AV} {H H' : AH} {o : Op} {v : Option AV} (hR : isR o = true) (hE : Ext H H') (h : execN P ρ H o = some (v, H)) : execN P ρ H' o = some (v, H') := by
  have hldn : ∀ {r ver n p vs}, ldn H r ver n p = some vs → ldn H' r ver n p = some vs := by
    intro r ver n p vs h
    cases n with
    | zero => exact h
    | succ n =>
      simp only [ldn] at h ⊢
      split at h
      case h_2 => cases h
      rename_i cells v stale ro hr
      rw [hE.row hr]
      exact h
  cases o with
  | load t x =>
    have h : (aRead P ρ H (.load t x)).map (fun v => (some v, H)) = some (v, H) := h
    obtain ⟨u, hu, h1⟩ := Option.map_eq_some_iff.1 h
    show (aRead P ρ H' (.load t x)).map (fun v => (some v, H')) = some (v, H')
    have : aRead P ρ H' (.load t x) = some u := by
      simp only [aRead] at hu ⊢
      split at hu
      case h_3 => cases hu
      case h_2 =>
        obtain ⟨c, hg, hk⟩ := Option.bind_eq_some_iff.1 hu
        rw [hE.gv hg]
        exact hk
      split at hu
      · rename_i hd
        rw [if_pos hd]
        obtain ⟨vs, h2, rfl⟩ := Option.map_eq_some_iff.1 hu
        rw [hldn h2]; rfl
      · rename_i hd
        rw [if_neg hd]
        exact hE.ld hu
    rw [this]
    cases h1
    rfl
  | slice t x lo hi mx =>
    have h : (match aPure P ρ (.slice t x lo hi mx) with | some v => some (some v, H) | none => (aRead P ρ H (.slice t x lo hi mx)).map fun v => (some v, H)) = some (v, H) := h
    show (match aPure P ρ (.slice t x lo hi mx) with | some v => some (some v, H') | none => (aRead P ρ H' (.slice t x lo hi mx)).map fun v => (some v, H')) = some (v, H')
    split at h
    · cases h; rfl
    · obtain ⟨u, hu, h1⟩ := Option.map_eq_some_iff.1 h
      have : aRead P ρ H' (.slice t x lo hi mx) = some u := by
        simp only [aRead] at hu ⊢
        split at hu
        case h_3 => cases hu
        case h_2 =>
          split at hu
          case h_2 => cases hu
          rename_i hie hr
          rw [hE.row hr, hie]
          exact hu
        split at hu
        case h_2 => cases hu
        split at hu
        case isFalse => cases hu
        rename_i hc
        obtain ⟨y, hy⟩ := Option.isSome_iff_exists.1 hc.2.2.1
        have hs := congrArg Option.isSome (hE.ld hy)
        rw [if_pos ⟨hc.1, hc.2.1, hs, hc.2.2.2⟩, endOk_same hE hc.2.2.1]
        exact hu
      rw [this]
      cases h1
      rfl
  | lookup t m x ok =>
    have h : (aLook P H t (ρ m) (ρ x) ok).map (fun v => (some v, H)) = some (v, H) := h
    obtain ⟨u, hu, h1⟩ := Option.map_eq_some_iff.1 h
    show (aLook P H' t (ρ m) (ρ x) ok).map (fun v => (some v, H')) = some (v, H')
    have hF : ∀ {F : List (AV × AV) → Option (Option AV)} {z m : AV}, aLookF H F z m ok = some u → aLookF H' F z m ok = some u := by
      intro F z m hu
      unfold aLookF at hu ⊢
      split at hu
      · exact hu
      · obtain ⟨es, he, hu⟩ := Option.bind_eq_some_iff.1 hu
        have h2 := hE.row (mrow_some he)
        unfold mrow
        rw [h2]
        exact hu
      · cases hu
    have : aLook P H' t (ρ m) (ρ x) ok = some u := by
      unfold aLook at hu ⊢
      split at hu
      case h_2 => cases hu
      split at hu
      · rename_i hk
        rw [if_pos hk]
        exact hF hu
      · rename_i hk
        rw [if_neg hk]
        split at hu
        · split at hu
          · rename_i hk2
            simp only [hk2, if_true]
            exact hF hu
          · cases hu
        · cases hu
    rw [this]
    cases h1
    rfl
  | _ => simp [isR] at hR

/-- The region that comes first, its order open. -/
theorem L_regX (hm : P.follows .mixedOrders = true) {id : Nat} {l : List Oper} {cs : List Code} {Q : Ex → Env → AH → Prop} (ks : List Nat) (hs : drawX l.toArray = true) (h : ∀ K : Env → AH → Prop, (∀ e' H', AWL P nt cs e' H' Q → K e' H') → wpX P nt l.toArray l e H fun e H => K (ekeep ks e) H) :
    AWL P nt (.region id l.toArray true :: cs) e H Q := by
  obtain ⟨tr, e', H', hT, hX, hk⟩ := wpX_trace (h (fun e' H' => AWL P nt cs e' H' Q) fun e' H' h => h)
  simp only [drawX, Bool.and_eq_true, List.all_eq_true, Bool.or_eq_true, Bool.not_eq_true', decide_eq_true_eq] at hs
  refine AWL_cons (AW_draw hm ks hT ⟨hs.1, ?_⟩ hk)
  intro i j o p r s ho hp hri hsj hR hW hw h1 h2
  have mem : ∀ (i : Nat) (o : Oper), l.toArray[i]? = some o → (o, i) ∈ l.toArray.toList.zipIdx := by
    intro i o ho
    rw [List.mk_mem_zipIdx_iff_getElem?, Array.getElem?_toList]; exact ho
  rcases hs.2 _ (mem i o ho) with h3 | h3
  · rw [hR] at h3; cases h3
  rcases h3 _ (mem j p hp) with ((h4 | h4) | h4) | ⟨hij, hz⟩
  · rw [hW] at h4; cases h4
  · rw [h1] at h4; cases h4
  · rw [h2] at h4; cases h4
  have hij : i < j := hij
  have hlen := hT.length
  have hrowsAt : ∀ (k : Nat) (r : Rec), tr[k]? = some r → rowsAt tr H' k = r.H := fun k r hk => by simp [rowsAt, hk]
  have chain : ∀ d, i + d ≤ j + 1 → Ext (rowsAt tr H' i) (rowsAt tr H' (i + d)) := by
    intro d
    induction d with
    | zero => intro _; exact .refl _
    | succ d ih =>
      intro hd
      have hlt : i + d < tr.length := by
        have := (List.getElem?_eq_some_iff.1 hsj).1
        omega
      have hrk : tr[i + d]? = some tr[i + d] := List.getElem?_eq_getElem hlt
      have hok : l[i + d]? = some (l[i + d]'(by omega)) := List.getElem?_eq_getElem (by omega)
      have hstep : Ext (rowsAt tr H' (i + d)) (rowsAt tr H' (i + d + 1)) := by
        rw [hT.next _ _ hrk, hrowsAt _ _ hrk]
        cases hwz : isW (l[i + d]'(by omega)).op with
        | false =>
          rw [(hT.did _ _ _ hok hrk).same hwz]; exact .refl _
        | true =>
          rcases hz _ (mem (i + d) _ (by rw [List.getElem?_toArray]; exact hok)) with (h5 | h5) | h5
          · rw [hwz] at h5; cases h5
          · exact hX _ _ _ hok hrk h5
          · have : j < i + d := h5
            omega
      exact (ih (by omega)).trans hstep
  have hE1 := chain (j - i) (by omega)
  have hE2 := chain (j + 1 - i) (by omega)
  rw [show i + (j - i) = j by omega, hrowsAt _ _ hsj, hrowsAt _ _ hri] at hE1
  rw [show i + (j + 1 - i) = j + 1 by omega, hT.next _ _ hsj, hrowsAt _ _ hri] at hE2
  have hd := hT.did i o r (by simpa using ho) hri
  have hR' := isR_notW hR
  have hsame := hd.same hR'
  rcases hd with ⟨h3, -, -⟩ | ⟨-, -, h3⟩ | ⟨h3, -, -⟩
  · rw [hw] at h3; cases h3
  · rcases h3 with h3 | ⟨f, args, v, h3, -⟩
    · rw [hsame] at h3
      exact ⟨execN_ext hR hE1 h3, execN_ext hR hE2 h3⟩
    · have := opCall_isW h3; rw [hR'] at this; cases this
  · rw [wantedA_T hw] at h3; cases h3

@[congr] theorem c_wpX {l : List Oper} {e e' : Env} {H H' : AH} {K : Env → AH → Prop} (h : e = e') (h' : H = H') : wpX P nt ops l e H K = wpX P nt ops l e' H' K := by rw [h, h']
@[congr] theorem c_exX {f : FuncId} {as bs : List AV} {H H' : AH} {Q : AV → AH → Prop} (h : as = bs) (h' : H = H') : exX P H f as Q = exX P H' f bs Q := by rw [h, h']
@[simp] theorem xx_nil (K : Env → AH → Prop) : wpX P nt ops [] e H K = K e H := rfl
@[simp] theorem xx_consN (d : Option Tmp) (op : Op) (t : TypeId) (p : String) (af : Array Edge) (rest : List Oper) (K : Env → AH → Prop) : wpX P nt ops (⟨d, op, t, p, af, none⟩ :: rest) e H K =
      (dstOk nt d = true ∧
        if isFnCall op then callS (opCall P (oval e) op) fun f args => exX P H f args (holdQ (fun v H' => wpX P nt ops rest (putDst e d (some v)) H' K) ⟨⟩)
        else resS (execN P (oval e) H op) (holdQ (fun v H' => wpX P nt ops rest (putDst e d v) H' K) ⟨⟩)) := by
  simp only [wpX, wantedA, wantS, holdQ]
  simp
@[simp] theorem xx_consG (d : Option Tmp) (op : Op) (t : TypeId) (p : String) (af : Array Edge) (j : Nat) (want : Bool) (rest : List Oper) (K : Env → AH → Prop) : wpX P nt ops (⟨d, op, t, p, af, some (j, want)⟩ :: rest) e H K = wantS (guardVal (slotV e (slotOf ops j)) want)
      (dstOk nt d = true ∧
        if isFnCall op then callS (opCall P (oval e) op) fun f args => exX P H f args (holdQ (fun v H' => wpX P nt ops rest (putDst e d (some v)) H' K) ⟨⟩)
        else resS (execN P (oval e) H op) (holdQ (fun v H' => wpX P nt ops rest (putDst e d v) H' K) ⟨⟩))
      (wpX P nt ops rest (putDst e d none) H K) := by
  have : wantedA ops e ⟨d, op, t, p, af, some (j, want)⟩ = guardVal (slotV e (slotOf ops j)) want := by
    unfold wantedA guardVal slotOf slotV
    simp only []
    cases (ops[j]?).bind (·.dst) <;> rfl
  rw [wpX, this]
  rfl
end
end Go.Proofs.Ytbimapbcpmeooaa.AX

/- A plain reading of runs: a statement whose order is open, in which calls make rows beside what is read, wherever the reading stands. -/
namespace Go.Proofs.Ytbimapbcpmeooaa.AX
open Go Go.RowKit

/-- The rows that an operation sees: what is read lay there when the statement began. -/
def rdH (o : Op) (H0 H : AH) : AH := if isR o then H0 else H
def bkH (o : Op) (H H' : AH) : AH := if isR o then H else H'
def wpY (P : Program) (nt : Nat) (ops : Array Oper) (H0 : AH) : List Oper → Env → AH → (Env → AH → Prop) → Prop
  | [], e, H, K => K e H
  | o :: rest, e, H, K =>
    wantS (wantedA ops e o)
      (dstOk nt o.dst = true ∧
        if isFnCall o.op then callS (opCall P (oval e) o.op) fun f args => exX P H f args fun v H' => wpY P nt ops H0 rest (putDst e o.dst (some v)) H' K
        else resS (execN P (oval e) (rdH o.op H0 H) o.op) fun v H' => wpY P nt ops H0 rest (putDst e o.dst v) (bkH o.op H H') K)
      (wpY P nt ops H0 rest (putDst e o.dst none) H K)

section
variable {P : Program} {nt : Nat} {ops : Array Oper} {e : Env} {H H0 : AH}

theorem wpY_trace : ∀ {l : List Oper} {e : Env} {H : AH} {K : Env → AH → Prop}, (∀ o ∈ l, isW o.op = true → isMk o.op = true) → Ext H0 H → wpY P nt ops H0 l e H K →
    ∃ tr e' H', Trace P nt ops l e H tr e' H' ∧ (∀ (i : Nat) (o : Oper) (r : Rec), l[i]? = some o → tr[i]? = some r → Ext H0 r.H ∧ Ext H0 r.H' ∧ (isR o.op = true → wantedA ops r.e o = some true → execN P (oval r.e) H0 o.op = some (r.v, H0))) ∧ K e' H'
  | [], e, H, K, _, _, h => ⟨[], e, H, .nil _ _, by simp, h⟩
  | o :: rest, e, H, K, hq, hE, h => by
    have hq' : ∀ o ∈ rest, isW o.op = true → isMk o.op = true := fun p hp => hq p (List.mem_cons_of_mem _ hp)
    simp only [wpY] at h
    have step : ∀ {tr : List Rec} {r0 : Rec}, (Ext H0 r0.H ∧ Ext H0 r0.H' ∧ (isR o.op = true → wantedA ops r0.e o = some true → execN P (oval r0.e) H0 o.op = some (r0.v, H0))) →
        (∀ (i : Nat) (o : Oper) (r : Rec), rest[i]? = some o → tr[i]? = some r → Ext H0 r.H ∧ Ext H0 r.H' ∧ (isR o.op = true → wantedA ops r.e o = some true → execN P (oval r.e) H0 o.op = some (r.v, H0))) →
        ∀ (i : Nat) (o' : Oper) (r : Rec), (o :: rest)[i]? = some o' → (r0 :: tr)[i]? = some r → Ext H0 r.H ∧ Ext H0 r.H' ∧ (isR o'.op = true → wantedA ops r.e o' = some true → execN P (oval r.e) H0 o'.op = some (r.v, H0)) := by
      intro tr r0 h1 h2 i o' r ho hr
      cases i with
      | zero => simp at ho hr; subst ho; subst hr; exact h1
      | succ i => exact h2 i o' r (by simpa using ho) (by simpa using hr)
    cases hw : wantedA ops e o with
    | none => rw [hw] at h; exact h.elim
    | some b =>
      rw [hw] at h
      cases b with
      | false =>
        obtain ⟨tr, e', H', h1, h2, h3⟩ := wpY_trace hq' hE (h.2 rfl)
        exact ⟨_, e', H', .skip hw h1, step ⟨hE, hE, fun _ h => by rw [hw] at h; cases h⟩ h2, h3⟩
      | true =>
        obtain ⟨hd, h⟩ := h.1 rfl
        split at h
        · rename_i hfn
          cases hc : opCall P (oval e) o.op with
          | none => rw [hc] at h; exact h.elim
          | some x =>
            obtain ⟨f, args⟩ := x
            rw [hc] at h
            obtain ⟨v, H1, hAC, hE1, h⟩ := h
            obtain ⟨tr, e', H', h1, h2, h3⟩ := wpY_trace hq' (hE.trans hE1) h
            refine ⟨_, e', H', .call hw hc hd hAC h1, step ⟨hE, hE.trans hE1, fun hR => ?_⟩ h2, h3⟩
            have := opCall_isW hc
            have := isR_notW hR
            simp_all
        · rename_i hnf
          cases hR : isR o.op with
          | true =>
            simp only [rdH, bkH, hR, if_true] at h
            cases hx : execN P (oval e) H0 o.op with
            | none => rw [hx] at h; exact h.elim
            | some x =>
              obtain ⟨v, H1⟩ := x
              have hH := execN_same (isR_notW hR) hx
              rw [hx] at h
              have hx' : execN P (oval e) H0 o.op = some (v, H0) := by rw [hx, hH]
              have h : wpY P nt ops H0 rest (putDst e o.dst v) H K := h
              obtain ⟨tr, e', H', h1, h2, h3⟩ := wpY_trace hq' hE h
              exact ⟨_, e', H', .op hw (execN_ext hR hE hx') hd h1, step ⟨hE, hE, fun _ _ => hx'⟩ h2, h3⟩
          | false =>
            simp only [rdH, bkH, hR, Bool.false_eq_true, if_false] at h
            cases hx : execN P (oval e) H o.op with
            | none => rw [hx] at h; exact h.elim
            | some x =>
              obtain ⟨v, H1⟩ := x
              have hE1 : Ext H H1 := by
                cases hW : isW o.op with
                | false => rw [execN_same hW hx]; exact .refl _
                | true => exact build_ext (hq o (by simp) hW) hnf hx
              rw [hx] at h
              have h : wpY P nt ops H0 rest (putDst e o.dst v) H1 K := h
              obtain ⟨tr, e', H', h1, h2, h3⟩ := wpY_trace hq' (hE.trans hE1) h
              exact ⟨_, e', H', .op hw hx hd h1, step ⟨hE, hE.trans hE1, fun h => by rw [hR] at h; cases h⟩ h2, h3⟩

/-- What is written is rows that are made. -/
def madeS (ops : Array Oper) : Bool := ordOK ops && ops.toList.all fun o => !isW o.op || isMk o.op
/-- The region that comes first, its order open; it writes by calls alone, which leave what is read as it was. -/
theorem L_regY (hm : P.follows .mixedOrders = true) {id : Nat} {l : List Oper} {cs : List Code} {Q : Ex → Env → AH → Prop} (ks : List Nat) (hs : madeS l.toArray = true)
    (h : ∀ K : Env → AH → Prop, (∀ e' H', AWL P nt cs e' H' Q → K e' H') → wpY P nt l.toArray H l e H fun e H => K (ekeep ks e) H) : AWL P nt (.region id l.toArray true :: cs) e H Q := by
  simp only [madeS, Bool.and_eq_true, List.all_eq_true, Bool.or_eq_true, Bool.not_eq_true'] at hs
  obtain ⟨tr, e', H', hT, hX, hk⟩ := wpY_trace (fun o ho hW => by rcases hs.2 o ho with h1 | h1; rw [hW] at h1; cases h1; exact h1) (.refl H) (h (fun e' H' => AWL P nt cs e' H' Q) fun e' H' h => h)
  refine AWL_cons (AW_draw hm ks hT ⟨hs.1, ?_⟩ hk)
  intro i j o p r s ho hp hri hsj hR hW hw h1 h2
  obtain ⟨-, -, g⟩ := hX i o r (by simpa using ho) hri
  obtain ⟨e1, e2, -⟩ := hX j p s (by simpa using hp) hsj
  have g := g hR hw
  exact ⟨execN_ext hR e1 g, execN_ext hR e2 g⟩

@[congr] theorem c_wpY {l : List Oper} {e e' : Env} {H H' : AH} {K : Env → AH → Prop} (h : e = e') (h' : H = H') : wpY P nt ops H0 l e H K = wpY P nt ops H0 l e' H' K := by rw [h, h']
@[simp] theorem y_nil (K : Env → AH → Prop) : wpY P nt ops H0 [] e H K = K e H := rfl
@[simp] theorem y_consN (d : Option Tmp) (op : Op) (t : TypeId) (p : String) (af : Array Edge) (rest : List Oper) (K : Env → AH → Prop) : wpY P nt ops H0 (⟨d, op, t, p, af, none⟩ :: rest) e H K =
      (dstOk nt d = true ∧
        if isFnCall op then callS (opCall P (oval e) op) fun f args => exX P H f args (holdQ (fun v H' => wpY P nt ops H0 rest (putDst e d (some v)) H' K) ⟨⟩)
        else resS (execN P (oval e) (rdH op H0 H) op) (holdQ (fun v H' => wpY P nt ops H0 rest (putDst e d v) (bkH op H H') K) ⟨⟩)) := by
  simp only [wpY, wantedA, wantS, holdQ]
  simp
@[simp] theorem y_consG (d : Option Tmp) (op : Op) (t : TypeId) (p : String) (af : Array Edge) (j : Nat) (want : Bool) (rest : List Oper) (K : Env → AH → Prop) : wpY P nt ops H0 (⟨d, op, t, p, af, some (j, want)⟩ :: rest) e H K = wantS (guardVal (slotV e (slotOf ops j)) want)
      (dstOk nt d = true ∧
        if isFnCall op then callS (opCall P (oval e) op) fun f args => exX P H f args (holdQ (fun v H' => wpY P nt ops H0 rest (putDst e d (some v)) H' K) ⟨⟩)
        else resS (execN P (oval e) (rdH op H0 H) op) (holdQ (fun v H' => wpY P nt ops H0 rest (putDst e d v) (bkH op H H') K) ⟨⟩))
      (wpY P nt ops H0 rest (putDst e d none) H K) := by
  have : wantedA ops e ⟨d, op, t, p, af, some (j, want)⟩ = guardVal (slotV e (slotOf ops j)) want := by
    unfold wantedA guardVal slotOf slotV
    simp only []
    cases (ops[j]?).bind (·.dst) <;> rfl
  rw [wpY, this]
  rfl
@[simp] theorem rd_buildS (t : TypeId) (n : Nat) (ps : Array (Nat × Operand)) : rdH (.buildSlice t n ps) H0 H = H := rfl
@[simp] theorem bk_buildS (t : TypeId) (n : Nat) (ps : Array (Nat × Operand)) : bkH (.buildSlice t n ps) H H0 = H0 := rfl
@[simp] theorem rd_load (t : TypeId) (x : Operand) : rdH (.load t x) H0 H = H0 := rfl
@[simp] theorem bk_load (t : TypeId) (x : Operand) : bkH (.load t x) H H0 = H := rfl
@[simp] theorem rd_slice (t : TypeId) (x : Operand) (a b c : Option Operand) : rdH (.slice t x a b c) H0 H = H0 := rfl
@[simp] theorem bk_slice (t : TypeId) (x : Operand) (a b c : Option Operand) : bkH (.slice t x a b c) H H0 = H := rfl
@[simp] theorem rd_move (x : Operand) : rdH (.move x) H0 H = H := rfl
@[simp] theorem bk_move (x : Operand) : bkH (.move x) H H0 = H0 := rfl
@[simp] theorem rd_assign (x : Operand) : rdH (.assign x) H0 H = H := rfl
@[simp] theorem bk_assign (x : Operand) : bkH (.assign x) H H0 = H0 := rfl
@[simp] theorem rd_pick (c a b : Operand) : rdH (.pick c a b) H0 H = H := rfl
@[simp] theorem bk_pick (c a b : Operand) : bkH (.pick c a b) H H0 = H0 := rfl
@[simp] theorem rd_build (t : TypeId) (ps : Array (Nat × Operand)) : rdH (.build t ps) H0 H = H := rfl
@[simp] theorem bk_build (t : TypeId) (ps : Array (Nat × Operand)) : bkH (.build t ps) H H0 = H0 := rfl
@[simp] theorem rd_binOp (op : BinOp) (t u : TypeId) (x y : Operand) : rdH (.binOp op t x y u) H0 H = H := rfl
@[simp] theorem bk_binOp (op : BinOp) (t u : TypeId) (x y : Operand) : bkH (.binOp op t x y u) H H0 = H0 := rfl
@[simp] theorem rd_unOp (op : UnOp) (t : TypeId) (x : Operand) : rdH (.unOp op t x) H0 H = H := rfl
@[simp] theorem bk_unOp (op : UnOp) (t : TypeId) (x : Operand) : bkH (.unOp op t x) H H0 = H0 := rfl
@[simp] theorem rd_convert (a b : TypeId) (x : Operand) : rdH (.convert a b x) H0 H = H := rfl
@[simp] theorem bk_convert (a b : TypeId) (x : Operand) : bkH (.convert a b x) H H0 = H0 := rfl
@[simp] theorem rd_fieldAddr (t : TypeId) (x : Operand) (f : Nat) : rdH (.fieldAddr t x f) H0 H = H := rfl
@[simp] theorem bk_fieldAddr (t : TypeId) (x : Operand) (f : Nat) : bkH (.fieldAddr t x f) H H0 = H0 := rfl
@[simp] theorem rd_field (t : TypeId) (x : Operand) (f : Nat) : rdH (.field t x f) H0 H = H := rfl
@[simp] theorem bk_field (t : TypeId) (x : Operand) (f : Nat) : bkH (.field t x f) H H0 = H0 := rfl
@[simp] theorem rd_indexAddr (t : TypeId) (x i : Operand) : rdH (.indexAddr t x i) H0 H = H := rfl
@[simp] theorem bk_indexAddr (t : TypeId) (x i : Operand) : bkH (.indexAddr t x i) H H0 = H0 := rfl
@[simp] theorem rd_index (t : TypeId) (x i : Operand) : rdH (.index t x i) H0 H = H := rfl
@[simp] theorem bk_index (t : TypeId) (x i : Operand) : bkH (.index t x i) H H0 = H0 := rfl
@[simp] theorem rd_extract (x : Operand) (i : Nat) : rdH (.extract x i) H0 H = H := rfl
@[simp] theorem bk_extract (x : Operand) (i : Nat) : bkH (.extract x i) H H0 = H0 := rfl
@[simp] theorem rd_len (as : Array Operand) (ts : Array TypeId) : rdH (.call ⟨.builtin .len, as, ts⟩) H0 H = H := rfl
@[simp] theorem bk_len (as : Array Operand) (ts : Array TypeId) : bkH (.call ⟨.builtin .len, as, ts⟩) H H0 = H0 := rfl
@[simp] theorem rd_mkFunc (f : Fn) (a b : Array Operand) : rdH (.makeFunc f a b) H0 H = H := rfl
@[simp] theorem bk_mkFunc (f : Fn) (a b : Array Operand) : bkH (.makeFunc f a b) H H0 = H0 := rfl
@[simp] theorem rd_mkIface (t : TypeId) (x : Operand) : rdH (.makeInterface t x) H0 H = H := rfl
@[simp] theorem bk_mkIface (t : TypeId) (x : Operand) : bkH (.makeInterface t x) H H0 = H0 := rfl
@[simp] theorem rd_nilCheck (x : Operand) : rdH (.nilCheck x) H0 H = H := rfl
@[simp] theorem bk_nilCheck (x : Operand) : bkH (.nilCheck x) H H0 = H0 := rfl
end

/-! ### Slices whose elements have some cells each -/
def Rs (k : Nat) (H : AH) (v : AV) (l : List (List AV)) : Prop :=
  ∃ r off ver sz full, v = .slice r off l.length ver sz full ∧ ∀ i (h : i < l.length), ∃ r', r = some r' ∧ sz = k ∧ ldn H r' ver k (off + i * k) = some l[i]
theorem Rs.nil (k : Nat) (H : AH) : Rs k H (.slice none 0 0 0 1 false) [] := ⟨none, 0, 0, 1, false, rfl, fun i h => by simp at h⟩
theorem ldn_ext {H H' : AH} (hE : Ext H H') {r ver n p : Nat} {vs : List AV} (h : ldn H r ver n p = some vs) : ldn H' r ver n p = some vs := by
  cases n with
  | zero => exact h
  | succ n =>
    simp only [ldn] at h ⊢
    split at h
    case h_2 => cases h
    rename_i cells v stale ro hr
    rw [hE.row hr]
    exact h
theorem Rs.ext {k : Nat} {H H1 : AH} {u : AV} {l : List (List AV)} (h : Rs k H u l) (hE : Ext H H1) : Rs k H1 u l := by
  obtain ⟨r, off, ver, sz, full, rfl, hl⟩ := h
  refine ⟨r, off, ver, sz, full, rfl, fun i hi => ?_⟩
  obtain ⟨r', h1, h2, h3⟩ := hl i hi
  exact ⟨r', h1, h2, ldn_ext hE h3⟩
theorem takeKnown_row : ∀ {l : List AV}, (∀ v ∈ l, v ≠ .undef) → ∀ (rest : List AV), takeKnown l.length (l ++ rest) = some l
  | [], _, _ => rfl
  | v :: l, h, rest => by
    have := takeKnown_row (l := l) (fun x hx => h x (by simp [hx])) rest
    have hv := h v (by simp)
    rw [List.length_cons, takeKnown_succ]
    simp only [List.cons_append, List.getElem?_cons_zero, List.drop_succ_cons, List.drop_zero, this]
    cases v <;> first | rfl | exact absurd rfl hv
theorem ldn_row {H : AH} {r ver n p s : Nat} {c : List AV} {ro : Bool} (hr : H[r]? = some (.row c ver s ro)) : ldn H r ver n p = takeKnown n (c.drop p) := by
  cases n with
  | zero => simp [ldn, takeKnown]
  | succ n => simp [ldn, hr]
theorem takeKnown_part : ∀ {m : Nat} {l vs : List AV}, takeKnown m l = some vs → vs.length = m ∧ ∀ a b, a + b ≤ m → takeKnown b (l.drop a) = some ((vs.drop a).take b) := by
  intro m
  induction m with
  | zero =>
    intro l vs h
    simp [takeKnown] at h
    subst h
    refine ⟨rfl, fun a b hab => ?_⟩
    have : b = 0 := by omega
    subst this
    simp [takeKnown]
  | succ m ih =>
    intro l vs h
    rw [takeKnown_succ] at h
    simp only [Option.bind_eq_some_iff, Option.map_eq_some_iff] at h
    obtain ⟨v, hv, vs', h', rfl⟩ := h
    obtain ⟨h1, h2⟩ := ih h'
    refine ⟨by simp [h1], fun a b hab => ?_⟩
    cases a with
    | succ a =>
      have := h2 a b (by omega)
      rw [List.drop_drop, Nat.add_comm] at this
      simpa using this
    | zero =>
      cases b with
      | zero => simp [takeKnown]
      | succ b =>
        have := h2 0 b (by omega)
        rw [List.drop_zero, List.drop_zero] at this
        rw [List.drop_zero, takeKnown_succ, hv, this]
        simp
theorem ldn_part {H : AH} {r ver m p : Nat} {vs : List AV} (h : ldn H r ver m p = some vs) : vs.length = m ∧ ∀ a b, a + b ≤ m → ldn H r ver b (p + a) = some ((vs.drop a).take b) := by
  cases m with
  | zero =>
    simp [ldn] at h
    subst h
    refine ⟨rfl, fun a b hab => ?_⟩
    have : b = 0 := by omega
    subst this
    simp [ldn]
  | succ m =>
    simp only [ldn] at h
    split at h
    case h_2 => cases h
    rename_i cells v stale ro hr
    split at h
    case isFalse => cases h
    rename_i hc
    obtain ⟨h1, h2⟩ := takeKnown_part h
    refine ⟨h1, fun a b hab => ?_⟩
    have := h2 a b hab
    rw [List.drop_drop] at this
    cases b with
    | zero => simp [ldn]
    | succ b =>
      simp only [ldn, hr]
      rw [if_pos (by omega)]
      exact this
/-- A type that is loaded as a whole. -/
def aggSz (P : Program) (t : TypeId) : Option Nat := match P.underlying t, P.info? t with | some d, some i => if isAggD d then some i.size else none | _, _ => none
theorem load_agg {P : Program} {t : TypeId} {n : Nat} (h : aggSz P t = some n) (H : AH) (r off ver : Nat) : loadV P t H (.ptr r off ver) = (ldn H r ver n off).map .agg := by
  unfold aggSz at h
  split at h
  case h_2 => cases h
  rename_i d i hd hi
  split at h
  case isFalse => cases h
  rename_i ha
  cases h
  simp [loadV, hd, hi, ha]
theorem load_gagg {P : Program} {t : TypeId} {n : Nat} (h : aggSz P t = some n) (H : AH) (g off : Nat) : loadV P t H (.gptr g off) = (gfind H g).bind fun cells => (takeKnown n (cells.drop off)).map .agg := by
  unfold aggSz at h
  split at h
  case h_2 => cases h
  rename_i d i hd hi
  split at h
  case isFalse => cases h
  rename_i ha
  cases h
  simp [loadV, hd, hi, ha]
/-- A struct's or an array's row is written as a whole. -/
theorem store_agg {P : Program} {t : TypeId} {n : Nat} (h : aggSz P t = some n) {H : AH} {r ver s : Nat} {c vs : List AV} (hr : H[r]? = some (.row c ver s false)) (hn : n ≠ 0) (hc : c.length = n) (hk : ∀ v ∈ c, v ≠ .undef) (hl : vs.length = n) (ho : ∀ v ∈ vs, v.one = true) :
    storeV P t H (.ptr r 0 ver) (.agg vs) = some (none, H.set r (.row vs ver 0 false)) := by
  unfold aggSz at h
  split at h
  case h_2 => cases h
  rename_i d i hd hi
  split at h
  case isFalse => cases h
  cases h
  cases vs with
  | nil => simp at hl; omega
  | cons v vs =>
    have ht : (takeKnown (v :: vs).length (c.drop 0)).isSome = true := by
      rw [List.drop_zero, hl, ← hc]
      have := takeKnown_row hk []
      rw [List.append_nil] at this
      rw [this]; rfl
    have hall : (v :: vs).all AV.one = true := by simpa using ho
    have hst : stn H r ver (v :: vs) 0 = some (H.set r (.row (v :: vs) ver 0 false)) := by
      simp only [stn, hr, ht, hall, and_self, if_true, List.take_zero, List.nil_append, Nat.zero_add, Nat.min_zero]
      rw [List.drop_of_length_le (by rw [hc, hl]; exact Nat.le_refl _), List.append_nil]
    have hlen : ((v :: vs).length != i.size) = false := by rw [hl]; simp
    simp only [storeV, hi, acells, AV.isU, Bool.false_or, hlen, Bool.false_eq_true, if_false, hst, Option.map_some]
/-- A struct's field. -/
def fldOff (P : Program) (t : TypeId) (f : Nat) : Option Nat := match P.underlying t with
  | some (.struct fields) => (fields[f]?).bind fun f => (P.info? f.type).bind fun i => if i.size = 0 then none else some f.offset
  | _ => none
theorem fld_ptr {P : Program} {t : TypeId} {f o : Nat} (h : fldOff P t f = some o) (r off ver : Nat) : aFieldAddr P t (.ptr r off ver) f = some (.ptr r (off + o) ver) := by
  unfold fldOff at h
  split at h
  case h_2 => cases h
  rename_i fields hu
  obtain ⟨fd, h1, h⟩ := Option.bind_eq_some_iff.1 h
  obtain ⟨i, h2, h⟩ := Option.bind_eq_some_iff.1 h
  split at h
  · cases h
  rename_i h0
  cases h
  simp [aFieldAddr, hu, h1, h2, h0]
/-- What only makes rows that its result does not name leaves the rows as they were. -/
theorem AC.quiet {P : Program} {f : FuncId} {args : List AV} {H : AH} {v : AV} (hb : belB H.length 4 v = true) (h : ∀ Q : AV → AH → Prop, (∀ H', Ext H H' → Q v H') → AC P f args H Q) (Q : AV → AH → Prop) (hq : Q v H) : AC P f args H Q := by
  refine AC_fin (h _ fun H' hE => ?_)
  refine ⟨⟨hE.1, fun r o hr ho => .inl (by rw [← hE.2 r hr]; exact ho)⟩, ?_⟩
  have ht : H'.take H.length = H := by
    obtain ⟨T, rfl⟩ := hE.app
    simp
  have hf : finish H.length H' v = (v, H) := by unfold finish; rw [if_pos hb, ht]
  rw [hf]; exact hq
theorem belB_int (N n : Nat) (k : IntKind) (i : Int) : belB N n (.int k i) = true := by cases n <;> rfl
theorem belB_bool (N n : Nat) (b : Bool) : belB N n (.bool b) = true := by cases n <;> rfl
theorem belB_two (N n : Nat) (k k' : IntKind) (i j : Int) : belB N (n + 1) (.agg [.int k i, .int k' j]) = true := by simp [belB, belB_int]
/-- A result that lies in a cell. -/
theorem res_cell {P : Program} {fn : Func} {e : Env} {H : AH} {b : Tmp} {t : TypeId} {v : AV} (hr : fn.results = #[.cell b t]) (hv : loadV P t H (eget e b) = some v) : aResults P fn e H = some v := by
  have h1 : aRes1 P e H (.cell b t) = some v := hv
  simp [aResults, hr, aResList, h1]
theorem noSlice {P : Program} {t : TypeId} {n z : Nat} (h : arSz P t = some (n, z)) (r off ver : Nat) (lo hi mx : Option AV) : aSlice P t (.ptr r off ver) lo hi mx = none := by
  unfold arSz at h
  split at h
  case h_2 => cases h
  rename_i n' e hu
  simp [aSlice, hu]
/-- A part of an array behind a pointer. -/
theorem slice_arr {P : Program} {t : TypeId} {n z : Nat} (h : arSz P t = some (n, z)) (hn : 0 < n) (hz : 0 < z) {H : AH} {r ver s : Nat} {c : List AV} {ro : Bool} {k : IntKind} {m : Nat} (hr : H[r]? = some (.row c ver s ro)) (hc : c.length = n * z) (hk : ∀ v ∈ c, v ≠ .undef) (hm : m ≤ n) :
    sliceR P t H (.ptr r 0 ver) none (some (.int k (m : Int))) none = some (.slice (some r) 0 m ver z false) := by
  unfold arSz at h
  split at h
  case h_2 => cases h
  rename_i n' e hu
  obtain ⟨ie, hie, h⟩ := Option.map_eq_some_iff.1 h
  cases h
  have hmul : 0 < n * ie.size := Nat.mul_pos hn hz
  have h2 : (ld H r (n * ie.size - 1) ver).isSome = true := by
    rw [ld_row hr]
    have hlt : n * ie.size - 1 < c.length := by omega
    rw [List.getElem?_eq_getElem hlt]
    have := hk _ (List.getElem_mem hlt)
    generalize c[n * ie.size - 1] = v at this
    cases v <;> first | rfl | exact absurd rfl this
  have h3 : endOk H r (n * ie.size) = true := by simp [endOk, hr, hc]
  simp [sliceR, hu, hie, hn, hz, h2, h3, aBounds, aBound, hm, partOf]
/-- A part of an array that lies within a struct. -/
theorem slice_part {P : Program} {t : TypeId} {n z : Nat} (h : arSz P t = some (n, z)) (hn : 0 < n) (hz : 0 < z) {H : AH} {r off ver s : Nat} {c : List AV} {k : IntKind} {m : Nat} (hr : H[r]? = some (.row c ver s false)) (hc : off + n * z < c.length) (hk : ∀ v ∈ c, v ≠ .undef) (hm : m ≤ n) :
    sliceR P t H (.ptr r off ver) none (some (.int k (m : Int))) none = some (.part r (off + 0) m ver z) := by
  unfold arSz at h
  split at h
  case h_2 => cases h
  rename_i n' e hu
  obtain ⟨ie, hie, h⟩ := Option.map_eq_some_iff.1 h
  cases h
  have hmul : 0 < n * ie.size := Nat.mul_pos hn hz
  have h2 : (ld H r (off + n * ie.size - 1) ver).isSome = true := by
    rw [ld_row hr]
    have hlt : off + n * ie.size - 1 < c.length := by omega
    rw [List.getElem?_eq_getElem hlt]
    have := hk _ (List.getElem_mem hlt)
    generalize c[off + n * ie.size - 1] = v at this
    cases v <;> first | rfl | exact absurd rfl this
  have h3 : endOk H r (off + n * ie.size) = false := by simp [endOk, hr]; omega
  simp [sliceR, hu, hie, hn, hz, h2, h3, aBounds, aBound, hm, partOf]
theorem len_part {P : Program} {u : TypeId} {n : Nat} (h : slSz P u = some n) (r off len ver sz : Nat) : aLen P u (.part r off len ver sz) = some (.int .i64 len) := by
  unfold slSz at h
  unfold aLen
  split at h
  · rename_i e he; rw [he]
  · cases h
theorem ixa_part {P : Program} {u : TypeId} {n : Nat} (h : slSz P u = some n) (r off len ver : Nat) (k : IntKind) (i : Int) : aIndexAddr P u (.part r off len ver n) (.int k i) = if 0 ≤ i ∧ i < len then some (.ptr r (off + i.toNat * n) ver) else none := by
  unfold slSz at h
  unfold aIndexAddr
  split at h
  · rename_i e he
    rw [he]
    cases hi : P.info? e with
    | none => rw [hi] at h; cases h
    | some ie => rw [hi] at h; simp at h; simp [h, hi]
  · cases h
/-- A struct of two ints. -/
def pairT (P : Program) (t : TypeId) : Bool := match P.underlying t with
  | some (.struct fs) => match fs.toList with
    | [f, g] => !P.stoodInHeld t && (f.name != "_" && (g.name != "_" && (Nat.beq f.offset 0 && (Nat.beq g.offset 1 && ((match P.underlying f.type with | some (.int _) => true | _ => false) && ((match P.underlying g.type with | some (.int _) => true | _ => false) && !P.eqGuardType P.depth t))))))
    | _ => false
  | _ => false
theorem pair_eq {P : Program} {t : TypeId} (h : pairT P t = true) (a b c d : Int) : eqV P 4 t (.agg [.int .i64 a, .int .i64 b]) (.agg [.int .i64 c, .int .i64 d]) = some (a == c && b == d) ∧ P.eqGuardType P.depth t = false := by
  unfold pairT at h
  split at h
  case h_2 => cases h
  rename_i fs hu
  split at h
  case h_2 => cases h
  rename_i f g hfs
  simp only [Bool.and_eq_true, Bool.not_eq_true', bne_iff_ne, ne_eq] at h
  obtain ⟨h1, h2, h3, h4, h5, h6, h7, h8⟩ := h
  have h4 := Nat.eq_of_beq_eq_true h4
  have h5 := Nat.eq_of_beq_eq_true h5
  split at h6
  case h_2 => cases h6
  rename_i k hk
  split at h7
  case h_2 => cases h7
  rename_i k' hk'
  refine ⟨?_, h8⟩
  obtain ⟨i1, hi1⟩ := info_of_underlying hk
  obtain ⟨i2, hi2⟩ := info_of_underlying hk'
  have p1 : ∀ x y : Int, aPart P f.type [.int .i64 x, .int .i64 y] f.offset = some (.int .i64 x) := fun x y => by simp [aPart, hk, hi1, isAggD, h4]
  have p2 : ∀ x y : Int, aPart P g.type [.int .i64 x, .int .i64 y] g.offset = some (.int .i64 y) := fun x y => by simp [aPart, hk', hi2, isAggD, h5]
  simp only [eqV, hu, h1, hfs, List.any_cons, List.any_nil, List.map_cons, List.map_nil, p1, p2, eqAll, hk, hk']
  cases hac : (a == c) <;> cases hbd : (b == d) <;> simp [h2, h3]
theorem b_eqP {P : Program} {t : TypeId} (h : pairT P t = true) (l : Bool) (a b c d : Int) : binV P .eql t l (.agg [.int .i64 a, .int .i64 b]) (.agg [.int .i64 c, .int .i64 d]) = some (.bool (a == c && b == d)) := by
  obtain ⟨h1, h2⟩ := pair_eq h a b c d
  simp [binV, aBin, aCmp, aEqA, h1, h2]
theorem b_neP {P : Program} {t : TypeId} (h : pairT P t = true) (l : Bool) (a b c d : Int) : binV P .neq t l (.agg [.int .i64 a, .int .i64 b]) (.agg [.int .i64 c, .int .i64 d]) = some (.bool (!(a == c && b == d))) := by
  obtain ⟨h1, h2⟩ := pair_eq h a b c d
  simp [binV, aBin, aCmp, aEqA, h1, h2]
def zeroT (P : Program) (t : TypeId) : Option (List AV) := (tiOf P t).map (·.zero)
theorem zeroT_some {P : Program} {t : TypeId} {z : List AV} (h : zeroT P t = some z) : ∃ I, tiOf P t = some I ∧ I.zero = z := by
  unfold zeroT at h
  exact Option.map_eq_some_iff.1 h
theorem alloc_z {P : Program} {t : TypeId} {z : List AV} {H : AH} (h : zeroT P t = some z) : ((tiOf P t).map fun I => ((some (AV.ptr H.length 0 0) : Option AV), H ++ [AObj.row I.zero 0 0 false])) = some (some (.ptr H.length 0 0), H ++ [.row z 0 0 false]) := by
  unfold zeroT at h
  cases ht : tiOf P t with
  | none => rw [ht] at h; cases h
  | some I => rw [ht] at h; simp at h; simp [h]
/-! ### Slices of the call's own whose elements have some cells each -/
def elK (P : Program) (t : TypeId) (k : Nat) : Bool := match P.underlying t with
  | some (.slice e) => match tiOf P e with | some I => I.size == k && decide (I.bytes ≤ 4096) && decide (0 < k) && decide (k ≤ 64) | none => false
  | _ => false
theorem elK_some {P : Program} {t : TypeId} {k : Nat} (h : elK P t k = true) : ∃ e I, P.underlying t = some (.slice e) ∧ tiOf P e = some I ∧ I.size = k ∧ I.bytes ≤ 4096 ∧ 0 < k ∧ k ≤ 64 := by
  unfold elK at h
  split at h
  · rename_i e he
    split at h
    · rename_i I hI
      simp at h
      exact ⟨e, I, he, hI, h.1.1.1, h.1.1.2, h.1.2, h.2⟩
    · cases h
  · cases h
def rowsOk (k : Nat) (l : List (List AV)) : Prop := ∀ x ∈ l, x.length = k ∧ ∀ v ∈ x, v.one = true
theorem one_known {v : AV} (h : v.one = true) : v ≠ .undef := by rintro rfl; simp [AV.one] at h
theorem flat_len {k : Nat} : ∀ {l : List (List AV)}, rowsOk k l → l.flatten.length = l.length * k
  | [], _ => by simp
  | x :: l, h => by
    have := flat_len (l := l) (fun y hy => h y (by simp [hy]))
    rw [List.flatten_cons, List.length_append, (h x (by simp)).1, this, List.length_cons, Nat.add_mul]
    omega
theorem flat_get {k : Nat} : ∀ {l : List (List AV)}, rowsOk k l → ∀ i (hi : i < l.length), takeKnown k (l.flatten.drop (i * k)) = some l[i]
  | [], _, i, hi => by simp at hi
  | x :: l, h, i, hi => by
    have hx := h x (by simp)
    cases i with
    | zero =>
      have := takeKnown_row (l := x) (fun v hv => one_known (hx.2 v hv)) l.flatten
      rw [hx.1] at this
      simpa using this
    | succ i =>
      have := flat_get (l := l) (fun y hy => h y (by simp [hy])) i (by simpa using hi)
      rw [List.flatten_cons, show (i + 1) * k = x.length + i * k by rw [hx.1, Nat.add_mul]; omega, List.drop_append, List.drop_of_length_le (by omega), List.nil_append]
      simpa using this
def OwnK (k N : Nat) (H : AH) (v : AV) (l : List (List AV)) : Prop :=
  rowsOk k l ∧ ((l = [] ∧ v = .slice none 0 0 0 1 false) ∨ ∃ r ver stale, N ≤ r ∧ v = .slice (some r) 0 l.length ver k false ∧ H[r]? = some (.row l.flatten ver stale false))
theorem OwnK.nil (k N : Nat) (H : AH) : OwnK k N H (.slice none 0 0 0 1 false) [] := ⟨fun _ hx => (by cases hx), .inl ⟨rfl, rfl⟩⟩
theorem OwnK.rs {k N : Nat} {H : AH} {v : AV} {l : List (List AV)} (h : OwnK k N H v l) : Rs k H v l := by
  obtain ⟨h0, h | ⟨r, ver, stale, -, rfl, hr⟩⟩ := h
  · obtain ⟨rfl, rfl⟩ := h
    exact Rs.nil k H
  · refine ⟨some r, 0, ver, k, false, rfl, fun i hi => ⟨r, rfl, rfl, ?_⟩⟩
    rw [ldn_row hr, Nat.zero_add]
    exact flat_get h0 i hi
theorem OwnK.ext {k N : Nat} {H H1 : AH} {v : AV} {l : List (List AV)} (h : OwnK k N H v l) (hE : Ext H H1) : OwnK k N H1 v l := by
  obtain ⟨h0, h | ⟨r, ver, stale, h1, rfl, hr⟩⟩ := h
  · exact ⟨h0, .inl h⟩
  · exact ⟨h0, .inr ⟨r, ver, stale, h1, rfl, hE.row hr⟩⟩
theorem OwnK.len {k N : Nat} {H : AH} {v : AV} {l : List (List AV)} (h : OwnK k N H v l) : ∃ r ver sz, v = .slice r 0 l.length ver sz false := by
  obtain ⟨-, h | ⟨r, ver, stale, -, rfl, -⟩⟩ := h
  · obtain ⟨rfl, rfl⟩ := h; exact ⟨none, 0, 1, rfl⟩
  · exact ⟨some r, ver, k, rfl⟩
theorem ownK_append {P : Program} {k : Nat} {H H0 : AH} (hE : Ext H0 H) {t u : TypeId} (ht : elK P t k = true) (hu : elK P u k = true) {v : AV} {x : List AV} {l : List (List AV)} {m : Nat} (ho : OwnK k H0.length H v l) (hxl : x.length = k) (hx : ∀ v ∈ x, v.one = true) (hlen : l.length < 16777216) :
    ∃ v' H', aAppend P (H ++ [.row x 0 m false]) t u v (.slice (some H.length) 0 1 0 k false) = some (v', H') ∧ OwnK k H0.length H' v' (l ++ [x]) ∧ Ext H0 H' := by
  obtain ⟨e, I, h1, h2, h3, h4, hk0, -⟩ := elK_some ht
  obtain ⟨e', I', g1, -⟩ := elK_some hu
  have hle := hE.1
  have hkn : takeKnown k x = some x := by
    have := takeKnown_row (l := x) (fun v hv => one_known (hx v hv)) []
    rwa [List.append_nil, hxl] at this
  have hsrc : aSrc P (H ++ [.row x 0 m false]) u k (.slice (some H.length) 0 1 0 k false) = some (1, x) := by
    have : ldn (H ++ [AObj.row x 0 m false]) H.length 0 (1 * k) 0 = some x := by
      rw [ldn_row (c := x) (s := m) (ro := false) (by simp), Nat.one_mul, List.drop_zero, hkn]
    simp only [aSrc, g1, this, true_and, Nat.zero_lt_one, if_true, Option.map_some]
  have hall : x.all AV.one = true := by simpa using hx
  obtain ⟨hrows, ho⟩ := ho
  have hrows' : rowsOk k (l ++ [x]) := by
    intro y hy
    rcases List.mem_append.1 hy with hy | hy
    · exact hrows y hy
    · simp at hy; subst hy; exact ⟨hxl, hx⟩
  unfold aAppend
  rcases ho with ⟨rfl, rfl⟩ | ⟨r, ver, stale, hr0, rfl, hr⟩
  · refine ⟨.slice (some (H.length + 1)) 0 1 0 k false, H ++ [.row x 0 m false] ++ [.row x 0 0 false], ?_, ⟨hrows', .inr ⟨H.length + 1, 0, 0, by omega, by simp, by simp⟩⟩, ?_⟩
    · simp [h1, h2, h3, h4, hsrc, hxl, hk0]
      exact hx
    · rw [List.append_assoc]; exact hE.trans (.push _ _)
  · have hlt : r < H.length := (List.getElem?_eq_some_iff.1 hr).1
    have hr' : (H ++ [AObj.row x 0 m false])[r]? = some (.row l.flatten ver stale false) := by rw [List.getElem?_append_left hlt]; exact hr
    have hfl := flat_len hrows
    refine ⟨.slice (some r) 0 (l.length + 1) (ver + 1) k false, (H ++ [AObj.row x 0 m false]).set r (AObj.row (l.flatten ++ x) (ver + 1) (min stale (l.length * k)) false), ?_, ⟨hrows', .inr ⟨r, ver + 1, min stale (l.length * k), hr0, by simp, ?_⟩⟩, ?_⟩
    · have hle' : l.length + 1 ≤ 16777216 := hlen
      have hin : inPlace (H ++ [AObj.row x 0 m false]) r 0 l.length 1 ver k x = none := by
        simp only [inPlace, hr']
        rw [if_neg]
        rintro ⟨-, h5⟩
        rw [hfl, Nat.add_mul] at h5
        omega
      have hgr : grow (H ++ [AObj.row x 0 m false]) r 0 (l.length * k) ver x = some ((H ++ [AObj.row x 0 m false]).set r (AObj.row (l.flatten ++ x) (ver + 1) (min stale (l.length * k)) false), ver + 1) := by
        simp only [grow, hr']
        rw [if_pos ⟨trivial, by omega, .inl trivial⟩]
        simp only [List.replicate_zero, List.nil_append, List.drop_zero, Nat.zero_add, List.take_of_length_le (Nat.le_of_eq hfl)]
      simp only [h1, h2, h3, hsrc, hall, hxl, hin, hgr, Option.bind_some, Option.map_some]
      simp [hk0, h4, hle']
    · rw [List.getElem?_set]
      simp; omega
    · exact (hE.trans (.push _ _)).set _ hr0
/-! ### The lesser and the greater one -/
@[simp] theorem x_min2 {P : Program} {ρ : Operand → AV} {H : AH} (x y : Operand) (ts : Array TypeId) : execN P ρ H (.call ⟨.builtin .min, #[x, y], ts⟩) = val1 H (aMin [ρ x, ρ y]) := by rw [← map_val1]; rfl
@[simp] theorem x_max2 {P : Program} {ρ : Operand → AV} {H : AH} (x y : Operand) (ts : Array TypeId) : execN P ρ H (.call ⟨.builtin .max, #[x, y], ts⟩) = val1 H (aMax [ρ x, ρ y]) := by rw [← map_val1]; rfl
@[simp] theorem min_int (k k' : IntKind) (a b : Int) : aMin [.int k a, .int k' b] = some (.int k (min a b)) := by
  simp only [aMin, aMinFrom]
  congr 2
  omega
@[simp] theorem max_int (k k' : IntKind) (a b : Int) : aMax [.int k a, .int k' b] = some (.int k (max a b)) := by
  simp only [aMax, aMaxFrom]
  congr 2
  omega
/-! ### Two ways that meet again -/
section
variable {P : Program} {nt : Nat} {e : Env} {H : AH}
theorem AW.keepE (ks : List Nat) {c : Code} {Q : Ex → Env → AH → Prop} (h : AW P nt c (ekeep ks e) H Q) : AW P nt c e H Q := fun ro base w0 σ w a ho S hr => h ro base w0 σ w a ho S (hr.keep ks)
theorem AWL_keep (ks : List Nat) : ∀ {cs : List Code} {Q : Ex → Env → AH → Prop}, (∀ e', Q .normal (ekeep ks e') H → Q .normal e' H) → AWL P nt cs (ekeep ks e) H Q → AWL P nt cs e H Q
  | [], _, hq, h => hq e h
  | _ :: _, _, _, h => AW.keepE ks h
/-- After a condition both ways go on alike. -/
theorem L_condK {x : Operand} {c d c2 : Code} {t : Bool} {cs : List Code} {Q : Ex → Env → AH → Prop} (ks : List Nat) (R : Env → AH → Prop) (hc : oval e x = .bool t)
    (h1 : t = true → AWL P nt (flat c) e H fun y e' H' => match y with | .normal => R (ekeep ks e') H' | y => Q y e' H') (h2 : t = false → AWL P nt (flat d) e H fun y e' H' => match y with | .normal => R (ekeep ks e') H' | y => Q y e' H')
    (hout : ∀ e' H', R e' H' → AWL P nt (c2 :: cs) e' H' Q) : AWL P nt (.cond x c d :: c2 :: cs) e H Q := by
  refine AWL_cons ((AW_cond_split hc (fun h => AW_of_flat (h1 h)) (fun h => AW_of_flat (h2 h))).mono fun y e' H' hy => ?_)
  cases y with
  | normal => exact AW.keepE ks (hout _ _ hy)
  | exit i => exact hy
  | goto i => exact hy
  | ret => exact hy
end
end Go.Proofs.Ytbimapbcpmeooaa.AX
