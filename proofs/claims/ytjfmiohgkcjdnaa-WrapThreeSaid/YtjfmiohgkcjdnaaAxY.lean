/- A plain reading of runs: stepping through a statement whose order is open. -/
import Derived.Test.YtjfmiohgkcjdnaaAxX
import Derived.Test.YtjfmiohgkcjdnaaAxP
namespace Go.Proofs.Ytjfmiohgkcjdnaa.AX
open Go Go.RowKit

def wpT (P : Program) (nt : Nat) (ops : Array Oper) : List Oper → Env → AH → (Env → AH → Prop) → Prop
  | [], e, H, K => K e H
  | o :: rest, e, H, K =>
    wantS (wantedA ops e o)
      (dstOk nt o.dst = true ∧
        if isFnCall o.op then callS (opCall P (oval e) o.op) fun f args => ∃ v H1, AC P f args H (fun v' H' => v' = v ∧ H' = H1) ∧ wpT P nt ops rest (putDst e o.dst (some v)) H1 K
        else resS (execN P (oval e) H o.op) fun v H' => wpT P nt ops rest (putDst e o.dst v) H' K)
      (wpT P nt ops rest (putDst e o.dst none) H K)

section
variable {P : Program} {nt : Nat} {ops : Array Oper} {e : Env} {H : AH}

theorem wpT_trace : ∀ {l : List Oper} {e : Env} {H : AH} {K : Env → AH → Prop}, wpT P nt ops l e H K → ∃ tr e' H', Trace P nt ops l e H tr e' H' ∧ K e' H'
  | [], e, H, K, h => ⟨[], e, H, .nil _ _, h⟩
  | o :: rest, e, H, K, h => by
    simp only [wpT] at h
    cases hw : wantedA ops e o with
    | none => rw [hw] at h; exact h.elim
    | some b =>
      rw [hw] at h
      cases b with
      | false =>
        obtain ⟨tr, e', H', h1, h2⟩ := wpT_trace (h.2 rfl)
        exact ⟨_, e', H', .skip hw h1, h2⟩
      | true =>
        obtain ⟨hd, h⟩ := h.1 rfl
        split at h
        · cases hc : opCall P (oval e) o.op with
          | none => rw [hc] at h; exact h.elim
          | some x =>
            obtain ⟨f, args⟩ := x
            rw [hc] at h
            obtain ⟨v, H1, hAC, h⟩ := h
            obtain ⟨tr, e', H', h1, h2⟩ := wpT_trace h
            exact ⟨_, e', H', .call hw hc hd hAC h1, h2⟩
        · cases hx : execN P (oval e) H o.op with
          | none => rw [hx] at h; exact h.elim
          | some x =>
            obtain ⟨v, H'⟩ := x
            rw [hx] at h
            obtain ⟨tr, e', H', h1, h2⟩ := wpT_trace h
            exact ⟨_, e', H', .op hw hx hd h1, h2⟩

theorem AW_drawT (hm : P.follows .mixedOrders = true) {id : Nat} {Q : Ex → Env → AH → Prop} (ks : List Nat) (hs : drawS ops = true) (h : wpT P nt ops ops.toList e H fun e' H' => Q .normal (ekeep ks e') H') : AW P nt (.region id ops true) e H Q := by
  obtain ⟨tr, e', H', hT, hq⟩ := wpT_trace h
  refine AW_draw hm ks hT ⟨?_, readsOK_of_drawS hs tr⟩ hq
  simp only [drawS, Bool.and_eq_true] at hs
  exact hs.1

/-- The region that comes first, its order open. -/
theorem L_regT (hm : P.follows .mixedOrders = true) {id : Nat} {l : List Oper} {cs : List Code} {Q : Ex → Env → AH → Prop} (ks : List Nat) (hs : drawS l.toArray = true) (h : ∀ K : Env → AH → Prop, (∀ e' H', AWL P nt cs e' H' Q → K e' H') → wpT P nt l.toArray l e H fun e H => K (ekeep ks e) H) :
    AWL P nt (.region id l.toArray true :: cs) e H Q :=
  AWL_cons (AW_drawT hm ks hs (h (fun e' H' => AWL P nt cs e' H' Q) fun _e' _H' h => h))

@[congr] theorem c_wpT {l : List Oper} {e e' : Env} {H H' : AH} {K : Env → AH → Prop} (h : e = e') (h' : H = H') : wpT P nt ops l e H K = wpT P nt ops l e' H' K := by rw [h, h']
@[simp] theorem t_nil (K : Env → AH → Prop) : wpT P nt ops [] e H K = K e H := rfl
def exC (P : Program) (H : AH) (f : FuncId) (args : List AV) (K : AV → AH → Prop) : Prop := ∃ v H1, AC P f args H (fun v' H' => v' = v ∧ H' = H1) ∧ K v H1
@[congr] theorem c_exC {f : FuncId} {as bs : List AV} {H H' : AH} {Q : AV → AH → Prop} (h : as = bs) (h' : H = H') : exC P H f as Q = exC P H' f bs Q := by rw [h, h']
@[simp] theorem t_consN (d : Option Tmp) (op : Op) (t : TypeId) (p : String) (af : Array Edge) (rest : List Oper) (K : Env → AH → Prop) : wpT P nt ops (⟨d, op, t, p, af, none⟩ :: rest) e H K =
      (dstOk nt d = true ∧
        if isFnCall op then callS (opCall P (oval e) op) fun f args => exC P H f args (holdQ (fun v H' => wpT P nt ops rest (putDst e d (some v)) H' K) ⟨⟩)
        else resS (execN P (oval e) H op) (holdQ (fun v H' => wpT P nt ops rest (putDst e d v) H' K) ⟨⟩)) := by
  simp only [wpT, wantedA, wantS, holdQ, exC]
  simp
@[simp] theorem t_consG (d : Option Tmp) (op : Op) (t : TypeId) (p : String) (af : Array Edge) (j : Nat) (want : Bool) (rest : List Oper) (K : Env → AH → Prop) : wpT P nt ops (⟨d, op, t, p, af, some (j, want)⟩ :: rest) e H K = wantS (guardVal (slotV e (slotOf ops j)) want)
      (dstOk nt d = true ∧
        if isFnCall op then callS (opCall P (oval e) op) fun f args => exC P H f args (holdQ (fun v H' => wpT P nt ops rest (putDst e d (some v)) H' K) ⟨⟩)
        else resS (execN P (oval e) H op) (holdQ (fun v H' => wpT P nt ops rest (putDst e d v) H' K) ⟨⟩))
      (wpT P nt ops rest (putDst e d none) H K) := by
  have : wantedA ops e ⟨d, op, t, p, af, some (j, want)⟩ = guardVal (slotV e (slotOf ops j)) want := by
    unfold wantedA guardVal slotOf slotV
    simp only []
    cases (ops[j]?).bind (·.dst) <;> rfl
  rw [wpT, this]
  rfl
theorem exC_mk {f : FuncId} {args : List AV} {K : AV → AH → Prop} {v : AV} {H1 : AH} (h : ∀ Q : AV → AH → Prop, Q v H1 → AC P f args H Q) (hk : K v H1) : exC P H f args K := ⟨v, H1, h _ ⟨rfl, rfl⟩, hk⟩

/-! ### Regions whose calls leave all rows alone -/
def exQ (P : Program) (H : AH) (f : FuncId) (args : List AV) (K : AV → AH → Prop) : Prop := ∃ v, AC P f args H (fun v' H' => v' = v ∧ H' = H) ∧ K v H
@[congr] theorem c_exQ {f : FuncId} {as bs : List AV} {H H' : AH} {Q : AV → AH → Prop} (h : as = bs) (h' : H = H') : exQ P H f as Q = exQ P H' f bs Q := by rw [h, h']
theorem exQ_mk {f : FuncId} {args : List AV} {K : AV → AH → Prop} {v : AV} (h : ∀ Q : AV → AH → Prop, Q v H → AC P f args H Q) (hk : K v H) : exQ P H f args K := ⟨v, h _ ⟨rfl, rfl⟩, hk⟩
def wpQ (P : Program) (nt : Nat) (ops : Array Oper) : List Oper → Env → AH → (Env → AH → Prop) → Prop
  | [], e, H, K => K e H
  | o :: rest, e, H, K =>
    wantS (wantedA ops e o)
      (dstOk nt o.dst = true ∧
        if isFnCall o.op then callS (opCall P (oval e) o.op) fun f args => exQ P H f args fun v H' => wpQ P nt ops rest (putDst e o.dst (some v)) H' K
        else resS (execN P (oval e) H o.op) fun v H' => wpQ P nt ops rest (putDst e o.dst v) H' K)
      (wpQ P nt ops rest (putDst e o.dst none) H K)
def quietS (ops : Array Oper) : Bool := ordOK ops && ops.toList.all fun o => !isW o.op || isFnCall o.op

theorem wpQ_trace : ∀ {l : List Oper} {e : Env} {H : AH} {K : Env → AH → Prop}, (∀ o ∈ l, isW o.op = true → isFnCall o.op = true) → wpQ P nt ops l e H K → ∃ tr e', Trace P nt ops l e H tr e' H ∧ (∀ r ∈ tr, r.H = H ∧ r.H' = H) ∧ K e' H
  | [], e, H, K, _, h => ⟨[], e, .nil _ _, by simp, h⟩
  | o :: rest, e, H, K, hq, h => by
    have hq' : ∀ o ∈ rest, isW o.op = true → isFnCall o.op = true := fun p hp => hq p (List.mem_cons_of_mem _ hp)
    simp only [wpQ] at h
    cases hw : wantedA ops e o with
    | none => rw [hw] at h; exact h.elim
    | some b =>
      rw [hw] at h
      cases b with
      | false =>
        obtain ⟨tr, e', h1, h2, h3⟩ := wpQ_trace hq' (h.2 rfl)
        exact ⟨_, e', .skip hw h1, by simp; exact h2, h3⟩
      | true =>
        obtain ⟨hd, h⟩ := h.1 rfl
        split at h
        · cases hc : opCall P (oval e) o.op with
          | none => rw [hc] at h; exact h.elim
          | some x =>
            obtain ⟨f, args⟩ := x
            rw [hc] at h
            obtain ⟨v, hAC, h⟩ := h
            obtain ⟨tr, e', h1, h2, h3⟩ := wpQ_trace hq' h
            exact ⟨_, e', .call hw hc hd hAC h1, by simp; exact h2, h3⟩
        · rename_i hnf
          cases hx : execN P (oval e) H o.op with
          | none => rw [hx] at h; exact h.elim
          | some x =>
            obtain ⟨v, H1⟩ := x
            have hnw : isW o.op = false := by
              cases hW : isW o.op with
              | false => rfl
              | true => exact absurd (hq o (by simp) hW) hnf
            have := execN_same hnw hx
            subst this
            rw [hx] at h
            obtain ⟨tr, e', h1, h2, h3⟩ := wpQ_trace hq' h
            exact ⟨_, e', .op hw hx hd h1, by simp; exact h2, h3⟩

/-- The region that comes first, its order open, where nothing is written. -/
theorem L_regQ (hm : P.follows .mixedOrders = true) {id : Nat} {l : List Oper} {cs : List Code} {Q : Ex → Env → AH → Prop} (ks : List Nat) (hs : quietS l.toArray = true) (h : ∀ K : Env → AH → Prop, (∀ e' H', AWL P nt cs e' H' Q → K e' H') → wpQ P nt l.toArray l e H fun e H => K (ekeep ks e) H) :
    AWL P nt (.region id l.toArray true :: cs) e H Q := by
  have h' := h (fun e' H' => AWL P nt cs e' H' Q) fun e' H' h => h
  simp only [quietS, Bool.and_eq_true, List.all_eq_true, Bool.or_eq_true, Bool.not_eq_true'] at hs
  obtain ⟨tr, e', hT, hr, hk⟩ := wpQ_trace (fun o ho hW => by rcases hs.2 o ho with h1 | h1; rw [hW] at h1; cases h1; exact h1) h'
  refine AWL_cons (AW_draw hm ks hT ⟨hs.1, ?_⟩ hk)
  intro i j o p r s ho hp hri hsj hR hW hw h1 h2
  have e1 := hr r (List.mem_of_getElem? hri)
  have e2 := hr s (List.mem_of_getElem? hsj)
  have hd := hT.did i o r (by simpa using ho) hri
  have hR' := isR_notW hR
  rcases hd with ⟨h3, -, -⟩ | ⟨-, -, h3⟩
  · rw [hw] at h3; cases h3
  · rcases h3 with h3 | ⟨f, args, v, h3, -⟩
    · rw [e1.1, e1.2] at h3
      rw [e2.1, e2.2]
      exact ⟨h3, h3⟩
    · have := opCall_isW h3; rw [hR'] at this; cases this

@[congr] theorem c_wpQ {l : List Oper} {e e' : Env} {H H' : AH} {K : Env → AH → Prop} (h : e = e') (h' : H = H') : wpQ P nt ops l e H K = wpQ P nt ops l e' H' K := by rw [h, h']
@[simp] theorem q_nil (K : Env → AH → Prop) : wpQ P nt ops [] e H K = K e H := rfl
@[simp] theorem q_consN (d : Option Tmp) (op : Op) (t : TypeId) (p : String) (af : Array Edge) (rest : List Oper) (K : Env → AH → Prop) : wpQ P nt ops (⟨d, op, t, p, af, none⟩ :: rest) e H K =
      (dstOk nt d = true ∧
        if isFnCall op then callS (opCall P (oval e) op) fun f args => exQ P H f args (holdQ (fun v H' => wpQ P nt ops rest (putDst e d (some v)) H' K) ⟨⟩)
        else resS (execN P (oval e) H op) (holdQ (fun v H' => wpQ P nt ops rest (putDst e d v) H' K) ⟨⟩)) := by
  simp only [wpQ, wantedA, wantS, holdQ]
  simp
@[simp] theorem q_consG (d : Option Tmp) (op : Op) (t : TypeId) (p : String) (af : Array Edge) (j : Nat) (want : Bool) (rest : List Oper) (K : Env → AH → Prop) : wpQ P nt ops (⟨d, op, t, p, af, some (j, want)⟩ :: rest) e H K = wantS (guardVal (slotV e (slotOf ops j)) want)
      (dstOk nt d = true ∧
        if isFnCall op then callS (opCall P (oval e) op) fun f args => exQ P H f args (holdQ (fun v H' => wpQ P nt ops rest (putDst e d (some v)) H' K) ⟨⟩)
        else resS (execN P (oval e) H op) (holdQ (fun v H' => wpQ P nt ops rest (putDst e d v) H' K) ⟨⟩))
      (wpQ P nt ops rest (putDst e d none) H K) := by
  have : wantedA ops e ⟨d, op, t, p, af, some (j, want)⟩ = guardVal (slotV e (slotOf ops j)) want := by
    unfold wantedA guardVal slotOf slotV
    simp only []
    cases (ops[j]?).bind (·.dst) <;> rfl
  rw [wpQ, this]
  rfl
/-- A part of an array behind a pointer; a part of a slice beyond its length. -/
def sliceR (P : Program) (t : TypeId) (H : AH) (x : AV) (lo hi mx : Option AV) : Option AV :=
  match P.underlying t, x with
    | some (.array n e), .ptr r off ver =>
      match P.info? e with
      | some ie =>
        if 0 < n ∧ 0 < ie.size ∧ (ld H r (off + n * ie.size - 1) ver).isSome ∧ endOk H r (off + n * ie.size) = true ∧ mx.isNone = true then
          (aBounds n lo hi mx).map fun (l, h, _) => .slice (some r) (off + l * ie.size) (h - l) ver ie.size false
        else none
      | none => none
    | some (.slice e), .slice (some r) off _ ver sz _ =>
      match P.info? e, H[r]? with
      | some ie, some (.row cells v _ false) => if v = ver ∧ ie.size = sz ∧ 0 < sz ∧ hi.isSome ∧ mx = none then
          (aBounds ((cells.length - off) / sz) lo hi none).map fun (l, h, _) => .slice (some r) (off + l * sz) (h - l) ver sz false
        else none
      | _, _ => none
    | _, _ => none
theorem aRead_slice {ρ : Operand → AV} (t : TypeId) (x : Operand) (lo hi mx : Option Operand) : aRead P ρ H (.slice t x lo hi mx) = sliceR P t H (ρ x) (lo.map ρ) (hi.map ρ) (mx.map ρ) := by
  have h : ∀ (a : Option TypeDesc) (b : AV), P.underlying t = a → ρ x = b → aRead P ρ H (.slice t x lo hi mx) = sliceR P t H (ρ x) (lo.map ρ) (hi.map ρ) (mx.map ρ) := by
    intro a b ha hb
    simp only [aRead, sliceR, ha, hb]
    cases a with
    | none => rfl
    | some d =>
      cases d <;> cases b <;> try rfl
      · rename_i r _ _ _ _ _
        cases r with
        | none => rfl
        | some r =>
          simp only [Option.isSome_map, Option.map_eq_none_iff]
          generalize P.info? _ = a1
          generalize H[r]? = a2
          cases a1 <;> cases a2 <;> rfl
      · simp only [Option.isNone_map]
        generalize P.info? _ = a1
        cases a1 <;> rfl
  exact h _ _ rfl rfl
@[simp] theorem x_slice {ρ : Operand → AV} (t : TypeId) (x : Operand) (lo hi mx : Option Operand) : execN P ρ H (.slice t x lo hi mx) = match aSlice P t (ρ x) (lo.map ρ) (hi.map ρ) (mx.map ρ) with | some v => some (some v, H) | none => (sliceR P t H (ρ x) (lo.map ρ) (hi.map ρ) (mx.map ρ)).map fun v => (some v, H) := by
  rw [← aRead_slice]; rfl
theorem slice_hi {t : TypeId} {n : Nat} (h : slSz P t = some n) (r : Option Nat) (off len ver : Nat) (full : Bool) {k : IntKind} {i : Nat} (hi : i ≤ len) : aSlice P t (.slice r off len ver n full) none (some (.int k i)) none = some (.slice r (off + 0) i ver n (full && i == len)) := by
  rw [slice_sl h]
  simp [aBounds, aBound, hi]
theorem slice_lo {t : TypeId} {n : Nat} (h : slSz P t = some n) (r : Option Nat) (off len ver : Nat) (full : Bool) {k : IntKind} {i : Nat} (hi : i ≤ len) : aSlice P t (.slice r off len ver n full) (some (.int k i)) none none = some (.slice r (off + i * n) (len - i) ver n full) := by
  rw [slice_sl h]
  simp [aBounds, aBound, hi]

/-- A slice of the call's own, its row behind the first N. -/
def OwnF (N : Nat) (H : AH) (v : AV) (l : List AV) : Prop :=
  (l = [] ∧ v = .slice none 0 0 0 1 false) ∨ ∃ r ver stale, N ≤ r ∧ v = .slice (some r) 0 l.length ver 1 false ∧ H[r]? = some (.row l ver stale false)
theorem OwnF.nil (N : Nat) (H : AH) : OwnF N H (.slice none 0 0 0 1 false) [] := .inl ⟨rfl, rfl⟩
theorem OwnF.own {N : Nat} {v : AV} {l : List AV} (h : OwnF N H v l) : Own H v l := by
  rcases h with h | ⟨r, ver, stale, -, h1, h2⟩
  · exact .inl h
  · exact .inr ⟨r, ver, stale, h1, h2⟩
theorem OwnF.len {N : Nat} {v : AV} {l : List AV} (h : OwnF N H v l) : ∃ r ver, v = .slice r 0 l.length ver 1 false := h.own.len
theorem ownF_append {H0 : AH} (hE : Ext H0 H) {t u : TypeId} (ht : elT P t = true) (hu : elT P u = true) {v x : AV} {l : List AV} {m : Nat} (ho : OwnF H0.length H v l) (hx : x.one = true) (hlen : l.length < 16777216) :
    ∃ v' H', aAppend P (H ++ [.row [x] 0 m false]) t u v (.slice (some H.length) 0 1 0 1 false) = some (v', H') ∧ OwnF H0.length H' v' (l ++ [x]) ∧ Ext H0 H' := by
  obtain ⟨e, I, h1, h2, h3, h4, -⟩ := elT_some ht
  obtain ⟨e', I', g1, -⟩ := elT_some hu
  have hsrc : aSrc P (H ++ [.row [x] 0 m false]) u 1 (.slice (some H.length) 0 1 0 1 false) = some (1, [x]) := by
    cases x <;> simp_all [aSrc, ldn, takeKnown, AV.one]
  have hle := hE.1
  unfold aAppend
  rcases ho with ⟨rfl, rfl⟩ | ⟨r, ver, stale, hr0, rfl, hr⟩
  · refine ⟨.slice (some (H.length + 1)) 0 1 0 1 false, H ++ [.row [x] 0 m false] ++ [.row [x] 0 0 false], ?_, .inr ⟨H.length + 1, 0, 0, by omega, by simp, by simp⟩, ?_⟩
    · simp [h1, h2, h3, h4, hsrc, hx]
    · rw [List.append_assoc]; exact hE.trans (.push _ _)
  · have hlt : r < H.length := (List.getElem?_eq_some_iff.1 hr).1
    have hr' : (H ++ [.row [x] 0 m false])[r]? = some (.row l ver stale false) := by rw [List.getElem?_append_left hlt]; exact hr
    refine ⟨.slice (some r) 0 (l.length + 1) (ver + 1) 1 false, (H ++ [AObj.row [x] 0 m false]).set r (AObj.row (l ++ [x]) (ver + 1) (min stale l.length) false), ?_, .inr ⟨r, ver + 1, min stale l.length, hr0, by simp, ?_⟩, ?_⟩
    · have : l.length + 1 ≤ 16777216 := hlen
      have hin : inPlace (H ++ [AObj.row [x] 0 m false]) r 0 l.length 1 ver 1 [x] = none := by simp [inPlace, hr']; omega
      simp [h1, h2, h3, h4, hsrc, hx, grow, hr', this, hin]
    · rw [List.getElem?_set]
      simp; omega
    · exact (hE.trans (.push _ _)).set _ hr0
end
end Go.Proofs.Ytjfmiohgkcjdnaa.AX
