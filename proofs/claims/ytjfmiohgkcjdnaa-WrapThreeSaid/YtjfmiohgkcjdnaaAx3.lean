/- A plain reading of runs: stepping through a statement whose order is open, whose last operation follows all others. -/
import Derived.Test.YtjfmiohgkcjdnaaAx2
import Derived.Test.YtjfmiohgkcjdnaaAxO
namespace Go.Proofs.Ytjfmiohgkcjdnaa.AX
open Go Go.RowKit

def allocK : Op → Bool
  | .alloc _ | .box .. | .buildSlice .. | .makeSlice .. => true
  | _ => false
/-- All but the last operation write nothing but new rows; the last one follows all of them. -/
def lastS (ops : Array Oper) : Bool :=
  ordOK ops && (ops.toList.dropLast.all fun o => !isW o.op || allocK o.op) && (List.range (ops.size - 1)).all fun i => anc (masks ops.toList []) (ops.size - 1) i

section
variable {P : Program} {nt : Nat} {ops : Array Oper} {e : Env} {H H0 : AH}

theorem execN_allocK {ρ : Operand → AV} {o : Op} {v : Option AV} {H' : AH} (ho : allocK o = true) (h : execN P ρ H o = some (v, H')) : Ext H H' := by
  cases o <;> simp only [allocK, Bool.false_eq_true] at ho
  case alloc t =>
    have h : aWrite P ρ H (.alloc t) = some (v, H') := h
    simp only [aWrite] at h
    repeat' split at h
    all_goals first | (cases h; done) | (cases h; exact .push _ _) | skip
    all_goals (simp only [Option.map_eq_some_iff] at h; obtain ⟨_, _, h⟩ := h; cases h; exact .push _ _)
  case box t x =>
    have h : aWrite P ρ H (.box t x) = some (v, H') := h
    simp only [aWrite] at h
    repeat' split at h
    all_goals first | (cases h; done) | (cases h; exact .push _ _) | skip
    all_goals (simp only [Option.map_eq_some_iff] at h; obtain ⟨_, _, h⟩ := h; cases h; exact .push _ _)
  case buildSlice t n ps =>
    have h : aWrite P ρ H (.buildSlice t n ps) = some (v, H') := h
    simp only [aWrite] at h
    repeat' split at h
    all_goals first | (cases h; done) | (cases h; exact .push _ _) | skip
    all_goals (simp only [Option.map_eq_some_iff] at h; obtain ⟨_, _, h⟩ := h; cases h; exact .push _ _)
  case makeSlice t x y =>
    have h : aWrite P ρ H (.makeSlice t x y) = some (v, H') := h
    simp only [aWrite] at h
    repeat' split at h
    all_goals first | (cases h; done) | (cases h; exact .push _ _) | skip
    all_goals (simp only [Option.map_eq_some_iff] at h; obtain ⟨_, _, h⟩ := h; cases h; exact .push _ _)

def wpL (P : Program) (nt : Nat) (ops : Array Oper) (H0 : AH) : List Oper → Env → AH → (Env → AH → Prop) → Prop
  | [], e, H, K => K e H
  | [o], e, H, K => wpO P nt ops [o] e H K
  | o :: o2 :: rest, e, H, K =>
    wantS (wantedA ops e o)
      (dstOk nt o.dst = true ∧ resS (execN P (oval e) (rdH o.op H0 H) o.op) fun v H' => wpL P nt ops H0 (o2 :: rest) (putDst e o.dst v) (bkH o.op H H') K)
      (wpL P nt ops H0 (o2 :: rest) (putDst e o.dst none) H K)

theorem wpL_trace : ∀ {l : List Oper} {oL : Oper} {e : Env} {H : AH} {K : Env → AH → Prop}, (∀ o ∈ l, isW o.op = true → allocK o.op = true) → Ext H0 H → wpL P nt ops H0 (l ++ [oL]) e H K →
    ∃ tr e' H', Trace P nt ops l e H tr e' H' ∧ (∀ (i : Nat) (o : Oper) (r : Rec), l[i]? = some o → tr[i]? = some r → Ext H0 r.H ∧ Ext H0 r.H' ∧ (isR o.op = true → wantedA ops r.e o = some true → execN P (oval r.e) H0 o.op = some (r.v, H0))) ∧ wpO P nt ops [oL] e' H' K
  | [], oL, e, H, K, _, _, h => ⟨[], e, H, .nil _ _, by simp, h⟩
  | o :: l, oL, e, H, K, hq, hE, h => by
    have hq' : ∀ o ∈ l, isW o.op = true → allocK o.op = true := fun p hp => hq p (List.mem_cons_of_mem _ hp)
    obtain ⟨o2, rest, hrest⟩ : ∃ o2 rest, l ++ [oL] = o2 :: rest := by
      cases l with
      | nil => exact ⟨oL, [], rfl⟩
      | cons a l => exact ⟨a, l ++ [oL], rfl⟩
    rw [List.cons_append, hrest] at h
    simp only [wpL] at h
    rw [← hrest] at h
    have step : ∀ {tr : List Rec} {r0 : Rec}, (Ext H0 r0.H ∧ Ext H0 r0.H' ∧ (isR o.op = true → wantedA ops r0.e o = some true → execN P (oval r0.e) H0 o.op = some (r0.v, H0))) →
        (∀ (i : Nat) (o : Oper) (r : Rec), l[i]? = some o → tr[i]? = some r → Ext H0 r.H ∧ Ext H0 r.H' ∧ (isR o.op = true → wantedA ops r.e o = some true → execN P (oval r.e) H0 o.op = some (r.v, H0))) →
        ∀ (i : Nat) (o' : Oper) (r : Rec), (o :: l)[i]? = some o' → (r0 :: tr)[i]? = some r → Ext H0 r.H ∧ Ext H0 r.H' ∧ (isR o'.op = true → wantedA ops r.e o' = some true → execN P (oval r.e) H0 o'.op = some (r.v, H0)) := by
      intro tr r0 h1 h2 i o' r ho hr
      cases i with
      | zero => simp at ho hr; subst ho; subst hr; exact h1
      | succ i => exact h2 i o' r (by simpa using ho) (by simpa using hr)
    cases hw : wantedA ops e o with
    | none => rw [hw] at h; exact h.elim
    | some b =>
      rw [hw] at h
      cases b with
      | false =>
        obtain ⟨tr, e', H', h1, h2, h3⟩ := wpL_trace hq' hE (h.2 rfl)
        exact ⟨_, e', H', .skip hw h1, step ⟨hE, hE, fun _ h => by rw [hw] at h; cases h⟩ h2, h3⟩
      | true =>
        obtain ⟨hd, h⟩ := h.1 rfl
        cases hR : isR o.op with
        | true =>
          simp only [rdH, bkH, hR, if_true] at h
          cases hx : execN P (oval e) H0 o.op with
          | none => rw [hx] at h; exact h.elim
          | some x =>
            obtain ⟨v, H1⟩ := x
            have hH := execN_same (isR_notW hR) hx
            rw [hx] at h
            have hx' : execN P (oval e) H0 o.op = some (v, H0) := by rw [hx, hH]
            have h : wpL P nt ops H0 (l ++ [oL]) (putDst e o.dst v) H K := h
            obtain ⟨tr, e', H', h1, h2, h3⟩ := wpL_trace hq' hE h
            exact ⟨_, e', H', .op hw (execN_ext hR hE hx') hd h1, step ⟨hE, hE, fun _ _ => hx'⟩ h2, h3⟩
        | false =>
          simp only [rdH, bkH, hR, Bool.false_eq_true, if_false] at h
          cases hx : execN P (oval e) H o.op with
          | none => rw [hx] at h; exact h.elim
          | some x =>
            obtain ⟨v, H1⟩ := x
            rw [hx] at h
            have h : wpL P nt ops H0 (l ++ [oL]) (putDst e o.dst v) H1 K := h
            have hE1 : Ext H0 H1 := by
              cases hW : isW o.op with
              | true => exact hE.trans (execN_allocK (hq o (by simp) hW) hx)
              | false => rw [execN_same hW hx]; exact hE
            obtain ⟨tr, e', H', h1, h2, h3⟩ := wpL_trace hq' hE1 h
            exact ⟨_, e', H', .op hw hx hd h1, step ⟨hE, hE1, fun h => by rw [hR] at h; cases h⟩ h2, h3⟩

/-- The region that comes first, its order open: its last operation follows all others, which write nothing but new rows. -/
theorem L_regL (hm : P.follows .mixedOrders = true) {id : Nat} {l : List Oper} {cs : List Code} {Q : Ex → Env → AH → Prop} (ks : List Nat) (hne : l ≠ []) (hs : lastS l.toArray = true)
    (h : ∀ K : Env → AH → Prop, (∀ e' H', AWL P nt cs e' H' Q → K e' H') → wpL P nt l.toArray H l e H fun e H => K (ekeep ks e) H) : AWL P nt (.region id l.toArray true :: cs) e H Q := by
  obtain ⟨oL, hl⟩ : ∃ oL, l = l.dropLast ++ [oL] := ⟨l.getLast hne, (List.dropLast_concat_getLast hne).symm⟩
  simp only [lastS, Bool.and_eq_true, List.all_eq_true, Bool.or_eq_true, Bool.not_eq_true', List.mem_range] at hs
  have h' := h (fun e' H' => AWL P nt cs e' H' Q) fun e' H' h => h
  have hlen : l.length = l.dropLast.length + 1 := by rw [hl]; simp
  generalize hd : l.dropLast = l0 at hl hs hlen
  have h'' : wpL P nt l.toArray H (l0 ++ [oL]) e H fun e H => AWL P nt cs (ekeep ks e) H Q := by rw [← hl]; exact h'
  obtain ⟨tr, e', H', hT, hX, hk⟩ := wpL_trace (fun o ho hW => by rcases hs.1.2 o ho with h1 | h1; rw [hW] at h1; cases h1; exact h1) (.refl H) h''
  refine AWL_cons (AW_drawL hm ks (l := l0) (oL := oL) hl hT hs.1.1 ?_ ?_ (wpO_sound hk))
  · intro i j o p r s ho hp hri hsj hR hW hw h1 h2
    obtain ⟨-, -, g⟩ := hX i o r ho hri
    obtain ⟨e1, e2, -⟩ := hX j p s hp hsj
    have g := g hR hw
    exact ⟨execN_ext hR e1 g, execN_ext hR e2 g⟩
  · intro i hi
    have := hs.2 i (by simp; omega)
    simpa [hlen] using this

@[congr] theorem c_wpL {l : List Oper} {e e' : Env} {H H' : AH} {K : Env → AH → Prop} (h : e = e') (h' : H = H') : wpL P nt ops H0 l e H K = wpL P nt ops H0 l e' H' K := by rw [h, h']
@[simp] theorem l_one (o : Oper) (K : Env → AH → Prop) : wpL P nt ops H0 [o] e H K = wpO P nt ops [o] e H K := rfl
@[simp] theorem l_consN (d : Option Tmp) (op : Op) (t : TypeId) (p : String) (af : Array Edge) (o2 : Oper) (rest : List Oper) (K : Env → AH → Prop) : wpL P nt ops H0 (⟨d, op, t, p, af, none⟩ :: o2 :: rest) e H K =
      (dstOk nt d = true ∧ resS (execN P (oval e) (rdH op H0 H) op) (holdQ (fun v H' => wpL P nt ops H0 (o2 :: rest) (putDst e d v) (bkH op H H') K) ⟨⟩)) := by
  simp only [wpL, wantedA, wantS, holdQ]
  simp
@[simp] theorem l_consG (d : Option Tmp) (op : Op) (t : TypeId) (p : String) (af : Array Edge) (j : Nat) (want : Bool) (o2 : Oper) (rest : List Oper) (K : Env → AH → Prop) : wpL P nt ops H0 (⟨d, op, t, p, af, some (j, want)⟩ :: o2 :: rest) e H K = wantS (guardVal (slotV e (slotOf ops j)) want)
      (dstOk nt d = true ∧ resS (execN P (oval e) (rdH op H0 H) op) (holdQ (fun v H' => wpL P nt ops H0 (o2 :: rest) (putDst e d v) (bkH op H H') K) ⟨⟩))
      (wpL P nt ops H0 (o2 :: rest) (putDst e d none) H K) := by
  have : wantedA ops e ⟨d, op, t, p, af, some (j, want)⟩ = guardVal (slotV e (slotOf ops j)) want := by
    unfold wantedA guardVal slotOf slotV
    simp only []
    cases (ops[j]?).bind (·.dst) <;> rfl
  rw [wpL, this]
  rfl
@[simp] theorem rd_alloc (t : TypeId) : rdH (.alloc t) H0 H = H := rfl
@[simp] theorem bk_alloc (t : TypeId) : bkH (.alloc t) H H0 = H0 := rfl
@[simp] theorem rd_box (t : TypeId) (x : Operand) : rdH (.box t x) H0 H = H := rfl
@[simp] theorem bk_box (t : TypeId) (x : Operand) : bkH (.box t x) H H0 = H0 := rfl
@[simp] theorem rd_buildSlice (t : TypeId) (n : Nat) (ps : Array (Nat × Operand)) : rdH (.buildSlice t n ps) H0 H = H := rfl
@[simp] theorem bk_buildSlice (t : TypeId) (n : Nat) (ps : Array (Nat × Operand)) : bkH (.buildSlice t n ps) H H0 = H0 := rfl
@[simp] theorem rd_makeSlice (t : TypeId) (x y : Operand) : rdH (.makeSlice t x y) H0 H = H := rfl
@[simp] theorem bk_makeSlice (t : TypeId) (x y : Operand) : bkH (.makeSlice t x y) H H0 = H0 := rfl
@[simp] theorem rd_makeFunc (f : Fn) (a b : Array Operand) : rdH (.makeFunc f a b) H0 H = H := rfl
@[simp] theorem bk_makeFunc (f : Fn) (a b : Array Operand) : bkH (.makeFunc f a b) H H0 = H0 := rfl
end

section
variable {P : Program} {nt : Nat} {ops : Array Oper} {e : Env} {H H0 : AH}
/-- The first m operations make rows at most, and what they read lay there before; the others are in order with what they touch. -/
def wpW (P : Program) (nt : Nat) (ops : Array Oper) (H0 : AH) : Nat → List Oper → Env → AH → (Env → AH → Prop) → Prop
  | 0, l, e, H, K => wpT P nt ops l e H K
  | _ + 1, [], e, H, K => K e H
  | m + 1, o :: rest, e, H, K =>
    wantS (wantedA ops e o)
      (dstOk nt o.dst = true ∧
        if isFnCall o.op then callS (opCall P (oval e) o.op) fun f args => exX P H f args fun v H' => wpW P nt ops H0 m rest (putDst e o.dst (some v)) H' K
        else resS (execN P (oval e) (rdH o.op H0 H) o.op) fun v H' => wpW P nt ops H0 m rest (putDst e o.dst v) (bkH o.op H H') K)
      (wpW P nt ops H0 m rest (putDst e o.dst none) H K)
theorem wpW_trace : ∀ {m : Nat} {l : List Oper} {e : Env} {H : AH} {K : Env → AH → Prop}, (∀ (i : Nat) (o : Oper), i < m → l[i]? = some o → isW o.op = true → isMk o.op = true) → Ext H0 H → wpW P nt ops H0 m l e H K →
    ∃ tr e' H', Trace P nt ops l e H tr e' H' ∧ (∀ (i : Nat) (o : Oper) (r : Rec), i < m → l[i]? = some o → tr[i]? = some r → Ext H0 r.H ∧ Ext H0 r.H' ∧ (isR o.op = true → wantedA ops r.e o = some true → execN P (oval r.e) H0 o.op = some (r.v, H0))) ∧ K e' H'
  | 0, l, e, H, K, _, _, h => by
    obtain ⟨tr, e', H', h1, h2⟩ := wpT_trace (show wpT P nt ops l e H K from h)
    exact ⟨tr, e', H', h1, fun i o r hi => by omega, h2⟩
  | m + 1, [], e, H, K, _, _, h => ⟨[], e, H, .nil _ _, by simp, h⟩
  | m + 1, o :: rest, e, H, K, hq, hE, h => by
    have hq' : ∀ (i : Nat) (o : Oper), i < m → rest[i]? = some o → isW o.op = true → isMk o.op = true := fun i p hi hp => hq (i + 1) p (by omega) (by simpa using hp)
    simp only [wpW] at h
    have step : ∀ {tr : List Rec} {r0 : Rec}, (Ext H0 r0.H ∧ Ext H0 r0.H' ∧ (isR o.op = true → wantedA ops r0.e o = some true → execN P (oval r0.e) H0 o.op = some (r0.v, H0))) →
        (∀ (i : Nat) (o : Oper) (r : Rec), i < m → rest[i]? = some o → tr[i]? = some r → Ext H0 r.H ∧ Ext H0 r.H' ∧ (isR o.op = true → wantedA ops r.e o = some true → execN P (oval r.e) H0 o.op = some (r.v, H0))) →
        ∀ (i : Nat) (o' : Oper) (r : Rec), i < m + 1 → (o :: rest)[i]? = some o' → (r0 :: tr)[i]? = some r → Ext H0 r.H ∧ Ext H0 r.H' ∧ (isR o'.op = true → wantedA ops r.e o' = some true → execN P (oval r.e) H0 o'.op = some (r.v, H0)) := by
      intro tr r0 h1 h2 i o' r hi ho hr
      cases i with
      | zero => simp at ho hr; subst ho; subst hr; exact h1
      | succ i => exact h2 i o' r (by omega) (by simpa using ho) (by simpa using hr)
    cases hw : wantedA ops e o with
    | none => rw [hw] at h; exact h.elim
    | some b =>
      rw [hw] at h
      cases b with
      | false =>
        obtain ⟨tr, e', H', h1, h2, h3⟩ := wpW_trace hq' hE (h.2 rfl)
        exact ⟨_, e', H', .skip hw h1, step ⟨hE, hE, fun _ h => by rw [hw] at h; cases h⟩ h2, h3⟩
      | true =>
        obtain ⟨hd, h⟩ := h.1 rfl
        split at h
        · rename_i hfn
          cases hc : opCall P (oval e) o.op with
          | none => rw [hc] at h; exact h.elim
          | some x =>
            obtain ⟨f, args⟩ := x
            rw [hc] at h
            obtain ⟨v, H1, hAC, hE1, h⟩ := h
            obtain ⟨tr, e', H', h1, h2, h3⟩ := wpW_trace hq' (hE.trans hE1) h
            refine ⟨_, e', H', .call hw hc hd hAC h1, step ⟨hE, hE.trans hE1, fun hR => ?_⟩ h2, h3⟩
            have := opCall_isW hc
            have := isR_notW hR
            simp_all
        · rename_i hnf
          cases hR : isR o.op with
          | true =>
            simp only [rdH, bkH, hR, if_true] at h
            cases hx : execN P (oval e) H0 o.op with
            | none => rw [hx] at h; exact h.elim
            | some x =>
              obtain ⟨v, H1⟩ := x
              have hH := execN_same (isR_notW hR) hx
              rw [hx] at h
              have hx' : execN P (oval e) H0 o.op = some (v, H0) := by rw [hx, hH]
              have h : wpW P nt ops H0 m rest (putDst e o.dst v) H K := h
              obtain ⟨tr, e', H', h1, h2, h3⟩ := wpW_trace hq' hE h
              exact ⟨_, e', H', .op hw (execN_ext hR hE hx') hd h1, step ⟨hE, hE, fun _ _ => hx'⟩ h2, h3⟩
          | false =>
            simp only [rdH, bkH, hR, Bool.false_eq_true, if_false] at h
            cases hx : execN P (oval e) H o.op with
            | none => rw [hx] at h; exact h.elim
            | some x =>
              obtain ⟨v, H1⟩ := x
              have hE1 : Ext H H1 := by
                cases hW : isW o.op with
                | false => rw [execN_same hW hx]; exact .refl _
                | true => exact build_ext (hq 0 o (by omega) (by simp) hW) hnf hx
              rw [hx] at h
              have h : wpW P nt ops H0 m rest (putDst e o.dst v) H1 K := h
              obtain ⟨tr, e', H', h1, h2, h3⟩ := wpW_trace hq' (hE.trans hE1) h
              exact ⟨_, e', H', .op hw hx hd h1, step ⟨hE, hE.trans hE1, fun h => by rw [hR] at h; cases h⟩ h2, h3⟩
/-- Reads and writings that are in no order are among the first m operations, which make rows at most. -/
def partS (m : Nat) (ops : Array Oper) : Bool :=
  ordOK ops && (let ms := masks ops.toList []; ops.toList.zipIdx.all fun x => !isR x.1.op || ops.toList.zipIdx.all fun y => !isW y.1.op || anc ms x.2 y.2 || anc ms y.2 x.2 || (decide (x.2 < m) && decide (y.2 < m))) &&
    ops.toList.zipIdx.all fun z => !isW z.1.op || isMk z.1.op || decide (m ≤ z.2)
theorem L_regW (hm : P.follows .mixedOrders = true) (m : Nat) {id : Nat} {l : List Oper} {cs : List Code} {Q : Ex → Env → AH → Prop} (ks : List Nat) (hs : partS m l.toArray = true)
    (h : ∀ K : Env → AH → Prop, (∀ e' H', AWL P nt cs e' H' Q → K e' H') → wpW P nt l.toArray H m l e H fun e H => K (ekeep ks e) H) : AWL P nt (.region id l.toArray true :: cs) e H Q := by
  simp only [partS, Bool.and_eq_true, List.all_eq_true, Bool.or_eq_true, Bool.not_eq_true', decide_eq_true_eq] at hs
  have mem : ∀ (i : Nat) (o : Oper), l.toArray[i]? = some o → (o, i) ∈ l.toArray.toList.zipIdx := by
    intro i o ho
    rw [List.mk_mem_zipIdx_iff_getElem?, Array.getElem?_toList]; exact ho
  obtain ⟨tr, e', H', hT, hX, hk⟩ := wpW_trace (fun i o hi ho hW => by
    rcases hs.2 _ (mem i o (by simpa using ho)) with (h1 | h1) | h1
    · rw [hW] at h1; cases h1
    · exact h1
    · have : m ≤ i := h1
      omega) (.refl H) (h (fun e' H' => AWL P nt cs e' H' Q) fun e' H' h => h)
  refine AWL_cons (AW_draw hm ks hT ⟨hs.1.1, ?_⟩ hk)
  intro i j o p r s ho hp hri hsj hR hW hw h1 h2
  rcases hs.1.2 _ (mem i o ho) with h3 | h3
  · rw [hR] at h3; cases h3
  rcases h3 _ (mem j p hp) with ((h4 | h4) | h4) | ⟨h4, h5⟩
  · rw [hW] at h4; cases h4
  · rw [h1] at h4; cases h4
  · rw [h2] at h4; cases h4
  obtain ⟨-, -, g⟩ := hX i o r h4 (by simpa using ho) hri
  obtain ⟨e1, e2, -⟩ := hX j p s h5 (by simpa using hp) hsj
  have g := g hR hw
  exact ⟨execN_ext hR e1 g, execN_ext hR e2 g⟩
@[congr] theorem c_wpW {m : Nat} {l : List Oper} {e e' : Env} {H H' : AH} {K : Env → AH → Prop} (h : e = e') (h' : H = H') : wpW P nt ops H0 m l e H K = wpW P nt ops H0 m l e' H' K := by rw [h, h']
@[simp] theorem w_zero (l : List Oper) (K : Env → AH → Prop) : wpW P nt ops H0 0 l e H K = wpT P nt ops l e H K := by cases l <;> rfl
@[simp] theorem w_consN (m : Nat) (d : Option Tmp) (op : Op) (t : TypeId) (p : String) (af : Array Edge) (rest : List Oper) (K : Env → AH → Prop) : wpW P nt ops H0 (m + 1) (⟨d, op, t, p, af, none⟩ :: rest) e H K =
      (dstOk nt d = true ∧
        if isFnCall op then callS (opCall P (oval e) op) fun f args => exX P H f args (holdQ (fun v H' => wpW P nt ops H0 m rest (putDst e d (some v)) H' K) ⟨⟩)
        else resS (execN P (oval e) (rdH op H0 H) op) (holdQ (fun v H' => wpW P nt ops H0 m rest (putDst e d v) (bkH op H H') K) ⟨⟩)) := by
  simp only [wpW, wantedA, wantS, holdQ]
  simp
end
end Go.Proofs.Ytjfmiohgkcjdnaa.AX
