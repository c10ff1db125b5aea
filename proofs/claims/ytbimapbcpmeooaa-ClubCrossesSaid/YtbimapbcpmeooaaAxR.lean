/- A plain reading of runs (R). -/
import Derived.Test.YtbimapbcpmeooaaAxN
import Derived.Test.YtbimapbcpmeooaaAxO
import Derived.Test.YtbimapbcpmeooaaAxX
import Derived.Scope
/- A plain reading of runs: stepping through a statement whose order is open, whose last operation follows all others. -/
namespace Go.Proofs.Ytbimapbcpmeooaa.AX
open Go Go.RowKit

def allocK : Op → Bool
  | .alloc _ | .box .. | .buildSlice .. | .makeSlice .. => true
  | _ => false
/-- All but the last operation write nothing but new rows; the last one follows all of them. -/
def lastS (ops : Array Oper) : Bool :=
  ordOK ops && (ops.toList.dropLast.all fun o => !isW o.op || allocK o.op) && (List.range (ops.size - 1)).all fun i => anc (masks ops.toList []) (ops.size - 1) i

section
variable {P : Program} {nt : Nat} {ops : Array Oper} {e : Env} {H H0 : AH}

theorem execN_allocK {ρ : Operand → AV} {o : Op} {v : Option AV} {H' : AH} (ho : allocK o = true) (h : execN P ρ H o = some (v, H')) : Ext H H' := by
  cases o <;> simp only [allocK, Bool.false_eq_true] at ho
  case alloc t =>
    have h : aWrite P ρ H (.alloc t) = some (v, H') := h
    simp only [aWrite] at h
    repeat' split at h
    all_goals first | (cases h; done) | (cases h; exact .push _ _) | skip
    all_goals (simp only [Option.map_eq_some_iff] at h; obtain ⟨_, _, h⟩ := h; cases h; exact .push _ _)
  case box t x =>
    have h : aWrite P ρ H (.box t x) = some (v, H') := h
    simp only [aWrite] at h
    repeat' split at h
    all_goals first | (cases h; done) | (cases h; exact .push _ _) | skip
    all_goals (simp only [Option.map_eq_some_iff] at h; obtain ⟨_, _, h⟩ := h; cases h; exact .push _ _)
  case buildSlice t n ps =>
    have h : aWrite P ρ H (.buildSlice t n ps) = some (v, H') := h
    simp only [aWrite] at h
    repeat' split at h
    all_goals first | (cases h; done) | (cases h; exact .push _ _) | skip
    all_goals (simp only [Option.map_eq_some_iff] at h; obtain ⟨_, _, h⟩ := h; cases h; exact .push _ _)
  case makeSlice t x y =>
    have h : aWrite P ρ H (.makeSlice t x y) = some (v, H') := h
    simp only [aWrite] at h
    repeat' split at h
    all_goals first | (cases h; done) | (cases h; exact .push _ _) | skip
    all_goals (simp only [Option.map_eq_some_iff] at h; obtain ⟨_, _, h⟩ := h; cases h; exact .push _ _)

def wpL (P : Program) (nt : Nat) (ops : Array Oper) (H0 : AH) : List Oper → Env → AH → (Env → AH → Prop) → Prop
  | [], e, H, K => K e H
  | [o], e, H, K => wpO P nt ops [o] e H K
  | o :: o2 :: rest, e, H, K =>
    wantS (wantedA ops e o)
      (dstOk nt o.dst = true ∧ resS (execN P (oval e) (rdH o.op H0 H) o.op) fun v H' => wpL P nt ops H0 (o2 :: rest) (putDst e o.dst v) (bkH o.op H H') K)
      (wpL P nt ops H0 (o2 :: rest) (putDst e o.dst none) H K)

theorem wpL_trace : ∀ {l : List Oper} {oL : Oper} {e : Env} {H : AH} {K : Env → AH → Prop}, (∀ o ∈ l, isW o.op = true → allocK o.op = true) → Ext H0 H → wpL P nt ops H0 (l ++ [oL]) e H K →
    ∃ tr e' H', Trace P nt ops l e H tr e' H' ∧ (∀ (i : Nat) (o : Oper) (r : Rec), l[i]? = some o → tr[i]? = some r → Ext H0 r.H ∧ Ext H0 r.H' ∧ (isR o.op = true → wantedA ops r.e o = some true → execN P (oval r.e) H0 o.op = some (r.v, H0))) ∧ wpO P nt ops [oL] e' H' K
  | [], oL, e, H, K, _, _, h => ⟨[], e, H, .nil _ _, by simp, h⟩
  | o :: l, oL, e, H, K, hq, hE, h => by
    have hq' : ∀ o ∈ l, isW o.op = true → allocK o.op = true := fun p hp => hq p (List.mem_cons_of_mem _ hp)
    obtain ⟨o2, rest, hrest⟩ : ∃ o2 rest, l ++ [oL] = o2 :: rest := by
      cases l with
      | nil => exact ⟨oL, [], rfl⟩
      | cons a l => exact ⟨a, l ++ [oL], rfl⟩
    rw [List.cons_append, hrest] at h
    simp only [wpL] at h
    rw [← hrest] at h
    have step : ∀ {tr : List Rec} {r0 : Rec}, (Ext H0 r0.H ∧ Ext H0 r0.H' ∧ (isR o.op = true → wantedA ops r0.e o = some true → execN P (oval r0.e) H0 o.op = some (r0.v, H0))) →
        (∀ (i : Nat) (o : Oper) (r : Rec), l[i]? = some o → tr[i]? = some r → Ext H0 r.H ∧ Ext H0 r.H' ∧ (isR o.op = true → wantedA ops r.e o = some true → execN P (oval r.e) H0 o.op = some (r.v, H0))) →
        ∀ (i : Nat) (o' : Oper) (r : Rec), (o :: l)[i]? = some o' → (r0 :: tr)[i]? = some r → Ext H0 r.H ∧ Ext H0 r.H' ∧ (isR o'.op = true → wantedA ops r.e o' = some true → execN P (oval r.e) H0 o'.op = some (r.v, H0)) := by
      intro tr r0 h1 h2 i o' r ho hr
      cases i with
      | zero => simp at ho hr; subst ho; subst hr; exact h1
      | succ i => exact h2 i o' r (by simpa using ho) (by simpa using hr)
    cases hw : wantedA ops e o with
    | none => rw [hw] at h; exact h.elim
    | some b =>
      rw [hw] at h
      cases b with
      | false =>
        obtain ⟨tr, e', H', h1, h2, h3⟩ := wpL_trace hq' hE (h.2 rfl)
        exact ⟨_, e', H', .skip hw h1, step ⟨hE, hE, fun _ h => by rw [hw] at h; cases h⟩ h2, h3⟩
      | true =>
        obtain ⟨hd, h⟩ := h.1 rfl
        cases hR : isR o.op with
        | true =>
          simp only [rdH, bkH, hR, if_true] at h
          cases hx : execN P (oval e) H0 o.op with
          | none => rw [hx] at h; exact h.elim
          | some x =>
            obtain ⟨v, H1⟩ := x
            have hH := execN_same (isR_notW hR) hx
            rw [hx] at h
            have hx' : execN P (oval e) H0 o.op = some (v, H0) := by rw [hx, hH]
            have h : wpL P nt ops H0 (l ++ [oL]) (putDst e o.dst v) H K := h
            obtain ⟨tr, e', H', h1, h2, h3⟩ := wpL_trace hq' hE h
            exact ⟨_, e', H', .op hw (execN_ext hR hE hx') hd h1, step ⟨hE, hE, fun _ _ => hx'⟩ h2, h3⟩
        | false =>
          simp only [rdH, bkH, hR, Bool.false_eq_true, if_false] at h
          cases hx : execN P (oval e) H o.op with
          | none => rw [hx] at h; exact h.elim
          | some x =>
            obtain ⟨v, H1⟩ := x
            rw [hx] at h
            have h : wpL P nt ops H0 (l ++ [oL]) (putDst e o.dst v) H1 K := h
            have hE1 : Ext H0 H1 := by
              cases hW : isW o.op with
              | true => exact hE.trans (execN_allocK (hq o (by simp) hW) hx)
              | false => rw [execN_same hW hx]; exact hE
            obtain ⟨tr, e', H', h1, h2, h3⟩ := wpL_trace hq' hE1 h
            exact ⟨_, e', H', .op hw hx hd h1, step ⟨hE, hE1, fun h => by rw [hR] at h; cases h⟩ h2, h3⟩

/-- The region that comes first, its order open: its last operation follows all others, which write nothing but new rows. -/
theorem L_regL (hm : P.follows .mixedOrders = true) {id : Nat} {l : List Oper} {cs : List Code} {Q : Ex → Env → AH → Prop} (ks : List Nat) (hne : l ≠ []) (hs : lastS l.toArray = true)
    (h : ∀ K : Env → AH → Prop, (∀ e' H', AWL P nt cs e' H' Q → K e' H') → wpL P nt l.toArray H l e H fun e H => K (ekeep ks e) H) : AWL P nt (.region id l.toArray true :: cs) e H Q := by
  obtain ⟨oL, hl⟩ : ∃ oL, l = l.dropLast ++ [oL] := ⟨l.getLast hne, (List.dropLast_concat_getLast hne).symm⟩
  simp only [lastS, Bool.and_eq_true, List.all_eq_true, Bool.or_eq_true, Bool.not_eq_true', List.mem_range] at hs
  have h' := h (fun e' H' => AWL P nt cs e' H' Q) fun e' H' h => h
  have hlen : l.length = l.dropLast.length + 1 := by rw [hl]; simp
  generalize hd : l.dropLast = l0 at hl hs hlen
  have h'' : wpL P nt l.toArray H (l0 ++ [oL]) e H fun e H => AWL P nt cs (ekeep ks e) H Q := by rw [← hl]; exact h'
  obtain ⟨tr, e', H', hT, hX, hk⟩ := wpL_trace (fun o ho hW => by rcases hs.1.2 o ho with h1 | h1; rw [hW] at h1; cases h1; exact h1) (.refl H) h''
  refine AWL_cons (AW_drawL hm ks (l := l0) (oL := oL) hl hT hs.1.1 ?_ ?_ (wpO_sound hk))
  · intro i j o p r s ho hp hri hsj hR hW hw h1 h2
    obtain ⟨-, -, g⟩ := hX i o r ho hri
    obtain ⟨e1, e2, -⟩ := hX j p s hp hsj
    have g := g hR hw
    exact ⟨execN_ext hR e1 g, execN_ext hR e2 g⟩
  · intro i hi
    have := hs.2 i (by simp; omega)
    simpa [hlen] using this

@[congr] theorem c_wpL {l : List Oper} {e e' : Env} {H H' : AH} {K : Env → AH → Prop} (h : e = e') (h' : H = H') : wpL P nt ops H0 l e H K = wpL P nt ops H0 l e' H' K := by rw [h, h']
@[simp] theorem l_one (o : Oper) (K : Env → AH → Prop) : wpL P nt ops H0 [o] e H K = wpO P nt ops [o] e H K := rfl
@[simp] theorem l_consN (d : Option Tmp) (op : Op) (t : TypeId) (p : String) (af : Array Edge) (o2 : Oper) (rest : List Oper) (K : Env → AH → Prop) : wpL P nt ops H0 (⟨d, op, t, p, af, none⟩ :: o2 :: rest) e H K =
      (dstOk nt d = true ∧ resS (execN P (oval e) (rdH op H0 H) op) (holdQ (fun v H' => wpL P nt ops H0 (o2 :: rest) (putDst e d v) (bkH op H H') K) ⟨⟩)) := by
  simp only [wpL, wantedA, wantS, holdQ]
  simp
@[simp] theorem l_consG (d : Option Tmp) (op : Op) (t : TypeId) (p : String) (af : Array Edge) (j : Nat) (want : Bool) (o2 : Oper) (rest : List Oper) (K : Env → AH → Prop) : wpL P nt ops H0 (⟨d, op, t, p, af, some (j, want)⟩ :: o2 :: rest) e H K = wantS (guardVal (slotV e (slotOf ops j)) want)
      (dstOk nt d = true ∧ resS (execN P (oval e) (rdH op H0 H) op) (holdQ (fun v H' => wpL P nt ops H0 (o2 :: rest) (putDst e d v) (bkH op H H') K) ⟨⟩))
      (wpL P nt ops H0 (o2 :: rest) (putDst e d none) H K) := by
  have : wantedA ops e ⟨d, op, t, p, af, some (j, want)⟩ = guardVal (slotV e (slotOf ops j)) want := by
    unfold wantedA guardVal slotOf slotV
    simp only []
    cases (ops[j]?).bind (·.dst) <;> rfl
  rw [wpL, this]
  rfl
@[simp] theorem rd_alloc (t : TypeId) : rdH (.alloc t) H0 H = H := rfl
@[simp] theorem bk_alloc (t : TypeId) : bkH (.alloc t) H H0 = H0 := rfl
@[simp] theorem rd_box (t : TypeId) (x : Operand) : rdH (.box t x) H0 H = H := rfl
@[simp] theorem bk_box (t : TypeId) (x : Operand) : bkH (.box t x) H H0 = H0 := rfl
@[simp] theorem rd_buildSlice (t : TypeId) (n : Nat) (ps : Array (Nat × Operand)) : rdH (.buildSlice t n ps) H0 H = H := rfl
@[simp] theorem bk_buildSlice (t : TypeId) (n : Nat) (ps : Array (Nat × Operand)) : bkH (.buildSlice t n ps) H H0 = H0 := rfl
@[simp] theorem rd_makeSlice (t : TypeId) (x y : Operand) : rdH (.makeSlice t x y) H0 H = H := rfl
@[simp] theorem bk_makeSlice (t : TypeId) (x y : Operand) : bkH (.makeSlice t x y) H H0 = H0 := rfl
@[simp] theorem rd_makeFunc (f : Fn) (a b : Array Operand) : rdH (.makeFunc f a b) H0 H = H := rfl
@[simp] theorem bk_makeFunc (f : Fn) (a b : Array Operand) : bkH (.makeFunc f a b) H H0 = H0 := rfl
end

section
variable {P : Program} {nt : Nat} {ops : Array Oper} {e : Env} {H H0 : AH}
/-- The first m operations make rows at most, and what they read lay there before; the others are in order with what they touch. -/
def wpW (P : Program) (nt : Nat) (ops : Array Oper) (H0 : AH) : Nat → List Oper → Env → AH → (Env → AH → Prop) → Prop
  | 0, l, e, H, K => wpT P nt ops l e H K
  | _ + 1, [], e, H, K => K e H
  | m + 1, o :: rest, e, H, K =>
    wantS (wantedA ops e o)
      (dstOk nt o.dst = true ∧
        if isFnCall o.op then callS (opCall P (oval e) o.op) fun f args => exX P H f args fun v H' => wpW P nt ops H0 m rest (putDst e o.dst (some v)) H' K
        else resS (execN P (oval e) (rdH o.op H0 H) o.op) fun v H' => wpW P nt ops H0 m rest (putDst e o.dst v) (bkH o.op H H') K)
      (wpW P nt ops H0 m rest (putDst e o.dst none) H K)
theorem wpW_trace : ∀ {m : Nat} {l : List Oper} {e : Env} {H : AH} {K : Env → AH → Prop}, (∀ (i : Nat) (o : Oper), i < m → l[i]? = some o → isW o.op = true → isMk o.op = true) → Ext H0 H → wpW P nt ops H0 m l e H K →
    ∃ tr e' H', Trace P nt ops l e H tr e' H' ∧ (∀ (i : Nat) (o : Oper) (r : Rec), i < m → l[i]? = some o → tr[i]? = some r → Ext H0 r.H ∧ Ext H0 r.H' ∧ (isR o.op = true → wantedA ops r.e o = some true → execN P (oval r.e) H0 o.op = some (r.v, H0))) ∧ K e' H'
  | 0, l, e, H, K, _, _, h => by
    obtain ⟨tr, e', H', h1, h2⟩ := wpT_trace (show wpT P nt ops l e H K from h)
    exact ⟨tr, e', H', h1, fun i o r hi => by omega, h2⟩
  | m + 1, [], e, H, K, _, _, h => ⟨[], e, H, .nil _ _, by simp, h⟩
  | m + 1, o :: rest, e, H, K, hq, hE, h => by
    have hq' : ∀ (i : Nat) (o : Oper), i < m → rest[i]? = some o → isW o.op = true → isMk o.op = true := fun i p hi hp => hq (i + 1) p (by omega) (by simpa using hp)
    simp only [wpW] at h
    have step : ∀ {tr : List Rec} {r0 : Rec}, (Ext H0 r0.H ∧ Ext H0 r0.H' ∧ (isR o.op = true → wantedA ops r0.e o = some true → execN P (oval r0.e) H0 o.op = some (r0.v, H0))) →
        (∀ (i : Nat) (o : Oper) (r : Rec), i < m → rest[i]? = some o → tr[i]? = some r → Ext H0 r.H ∧ Ext H0 r.H' ∧ (isR o.op = true → wantedA ops r.e o = some true → execN P (oval r.e) H0 o.op = some (r.v, H0))) →
        ∀ (i : Nat) (o' : Oper) (r : Rec), i < m + 1 → (o :: rest)[i]? = some o' → (r0 :: tr)[i]? = some r → Ext H0 r.H ∧ Ext H0 r.H' ∧ (isR o'.op = true → wantedA ops r.e o' = some true → execN P (oval r.e) H0 o'.op = some (r.v, H0)) := by
      intro tr r0 h1 h2 i o' r hi ho hr
      cases i with
      | zero => simp at ho hr; subst ho; subst hr; exact h1
      | succ i => exact h2 i o' r (by omega) (by simpa using ho) (by simpa using hr)
    cases hw : wantedA ops e o with
    | none => rw [hw] at h; exact h.elim
    | some b =>
      rw [hw] at h
      cases b with
      | false =>
        obtain ⟨tr, e', H', h1, h2, h3⟩ := wpW_trace hq' hE (h.2 rfl)
        exact ⟨_, e', H', .skip hw h1, step ⟨hE, hE, fun _ h => by rw [hw] at h; cases h⟩ h2, h3⟩
      | true =>
        obtain ⟨hd, h⟩ := h.1 rfl
        split at h
        · rename_i hfn
          cases hc : opCall P (oval e) o.op with
          | none => rw [hc] at h; exact h.elim
          | some x =>
            obtain ⟨f, args⟩ := x
            rw [hc] at h
            obtain ⟨v, H1, hAC, hE1, h⟩ := h
            obtain ⟨tr, e', H', h1, h2, h3⟩ := wpW_trace hq' (hE.trans hE1) h
            refine ⟨_, e', H', .call hw hc hd hAC h1, step ⟨hE, hE.trans hE1, fun hR => ?_⟩ h2, h3⟩
            have := opCall_isW hc
            have := isR_notW hR
            simp_all
        · rename_i hnf
          cases hR : isR o.op with
          | true =>
            simp only [rdH, bkH, hR, if_true] at h
            cases hx : execN P (oval e) H0 o.op with
            | none => rw [hx] at h; exact h.elim
            | some x =>
              obtain ⟨v, H1⟩ := x
              have hH := execN_same (isR_notW hR) hx
              rw [hx] at h
              have hx' : execN P (oval e) H0 o.op = some (v, H0) := by rw [hx, hH]
              have h : wpW P nt ops H0 m rest (putDst e o.dst v) H K := h
              obtain ⟨tr, e', H', h1, h2, h3⟩ := wpW_trace hq' hE h
              exact ⟨_, e', H', .op hw (execN_ext hR hE hx') hd h1, step ⟨hE, hE, fun _ _ => hx'⟩ h2, h3⟩
          | false =>
            simp only [rdH, bkH, hR, Bool.false_eq_true, if_false] at h
            cases hx : execN P (oval e) H o.op with
            | none => rw [hx] at h; exact h.elim
            | some x =>
              obtain ⟨v, H1⟩ := x
              have hE1 : Ext H H1 := by
                cases hW : isW o.op with
                | false => rw [execN_same hW hx]; exact .refl _
                | true => exact build_ext (hq 0 o (by omega) (by simp) hW) hnf hx
              rw [hx] at h
              have h : wpW P nt ops H0 m rest (putDst e o.dst v) H1 K := h
              obtain ⟨tr, e', H', h1, h2, h3⟩ := wpW_trace hq' (hE.trans hE1) h
              exact ⟨_, e', H', .op hw hx hd h1, step ⟨hE, hE.trans hE1, fun h => by rw [hR] at h; cases h⟩ h2, h3⟩
/-- Reads and writings that are in no order are among the first m operations, which make rows at most. -/
def partS (m : Nat) (ops : Array Oper) : Bool :=
  ordOK ops && (let ms := masks ops.toList []; ops.toList.zipIdx.all fun x => !isR x.1.op || ops.toList.zipIdx.all fun y => !isW y.1.op || anc ms x.2 y.2 || anc ms y.2 x.2 || (decide (x.2 < m) && decide (y.2 < m))) &&
    ops.toList.zipIdx.all fun z => !isW z.1.op || isMk z.1.op || decide (m ≤ z.2)
theorem L_regW (hm : P.follows .mixedOrders = true) (m : Nat) {id : Nat} {l : List Oper} {cs : List Code} {Q : Ex → Env → AH → Prop} (ks : List Nat) (hs : partS m l.toArray = true)
    (h : ∀ K : Env → AH → Prop, (∀ e' H', AWL P nt cs e' H' Q → K e' H') → wpW P nt l.toArray H m l e H fun e H => K (ekeep ks e) H) : AWL P nt (.region id l.toArray true :: cs) e H Q := by
  simp only [partS, Bool.and_eq_true, List.all_eq_true, Bool.or_eq_true, Bool.not_eq_true', decide_eq_true_eq] at hs
  have mem : ∀ (i : Nat) (o : Oper), l.toArray[i]? = some o → (o, i) ∈ l.toArray.toList.zipIdx := by
    intro i o ho
    rw [List.mk_mem_zipIdx_iff_getElem?, Array.getElem?_toList]; exact ho
  obtain ⟨tr, e', H', hT, hX, hk⟩ := wpW_trace (fun i o hi ho hW => by
    rcases hs.2 _ (mem i o (by simpa using ho)) with (h1 | h1) | h1
    · rw [hW] at h1; cases h1
    · exact h1
    · have : m ≤ i := h1
      omega) (.refl H) (h (fun e' H' => AWL P nt cs e' H' Q) fun e' H' h => h)
  refine AWL_cons (AW_draw hm ks hT ⟨hs.1.1, ?_⟩ hk)
  intro i j o p r s ho hp hri hsj hR hW hw h1 h2
  rcases hs.1.2 _ (mem i o ho) with h3 | h3
  · rw [hR] at h3; cases h3
  rcases h3 _ (mem j p hp) with ((h4 | h4) | h4) | ⟨h4, h5⟩
  · rw [hW] at h4; cases h4
  · rw [h1] at h4; cases h4
  · rw [h2] at h4; cases h4
  obtain ⟨-, -, g⟩ := hX i o r h4 (by simpa using ho) hri
  obtain ⟨e1, e2, -⟩ := hX j p s h5 (by simpa using hp) hsj
  have g := g hR hw
  exact ⟨execN_ext hR e1 g, execN_ext hR e2 g⟩
@[congr] theorem c_wpW {m : Nat} {l : List Oper} {e e' : Env} {H H' : AH} {K : Env → AH → Prop} (h : e = e') (h' : H = H') : wpW P nt ops H0 m l e H K = wpW P nt ops H0 m l e' H' K := by rw [h, h']
@[simp] theorem w_zero (l : List Oper) (K : Env → AH → Prop) : wpW P nt ops H0 0 l e H K = wpT P nt ops l e H K := by cases l <;> rfl
@[simp] theorem w_consN (m : Nat) (d : Option Tmp) (op : Op) (t : TypeId) (p : String) (af : Array Edge) (rest : List Oper) (K : Env → AH → Prop) : wpW P nt ops H0 (m + 1) (⟨d, op, t, p, af, none⟩ :: rest) e H K =
      (dstOk nt d = true ∧
        if isFnCall op then callS (opCall P (oval e) op) fun f args => exX P H f args (holdQ (fun v H' => wpW P nt ops H0 m rest (putDst e d (some v)) H' K) ⟨⟩)
        else resS (execN P (oval e) (rdH op H0 H) op) (holdQ (fun v H' => wpW P nt ops H0 m rest (putDst e d v) (bkH op H H') K) ⟨⟩)) := by
  simp only [wpW, wantedA, wantS, holdQ]
  simp
end

/-! ### The first m operations write nothing but new rows; the others are in order, behind all before them -/
section
variable {P : Program} {nt : Nat} {ops : Array Oper} {e : Env} {H H0 : AH}
def tailS (m : Nat) (ops : Array Oper) : Bool :=
  ordOK ops && ((ops.toList.take m).all fun o => !isW o.op || allocK o.op) && (List.range ops.size).all fun k => decide (k < m) || (List.range k).all fun i => anc (masks ops.toList []) k i
def wpM (P : Program) (nt : Nat) (ops : Array Oper) (H0 : AH) : Nat → List Oper → Env → AH → (Env → AH → Prop) → Prop
  | 0, l, e, H, K => wpO P nt ops l e H K
  | _ + 1, [], _, _, _ => False
  | m + 1, o :: rest, e, H, K =>
    wantS (wantedA ops e o)
      (dstOk nt o.dst = true ∧ resS (execN P (oval e) (rdH o.op H0 H) o.op) fun v H' => wpM P nt ops H0 m rest (putDst e o.dst v) (bkH o.op H H') K)
      (wpM P nt ops H0 m rest (putDst e o.dst none) H K)
theorem wpM_trace : ∀ {m : Nat} {l : List Oper} {e : Env} {H : AH} {K : Env → AH → Prop}, (∀ o ∈ l.take m, isW o.op = true → allocK o.op = true) → Ext H0 H → wpM P nt ops H0 m l e H K →
    m ≤ l.length ∧ ∃ tr e' H', Trace P nt ops (l.take m) e H tr e' H' ∧ (∀ (i : Nat) (o : Oper) (r : Rec), (l.take m)[i]? = some o → tr[i]? = some r → Ext H0 r.H ∧ Ext H0 r.H' ∧ (isR o.op = true → wantedA ops r.e o = some true → execN P (oval r.e) H0 o.op = some (r.v, H0))) ∧ wpO P nt ops (l.drop m) e' H' K
  | 0, l, e, H, K, _, _, h => ⟨Nat.zero_le _, [], e, H, .nil _ _, by simp, by simpa [wpM] using h⟩
  | m + 1, [], e, H, K, _, _, h => by simp [wpM] at h
  | m + 1, o :: l, e, H, K, hq, hE, h => by
    have hq' : ∀ o ∈ l.take m, isW o.op = true → allocK o.op = true := fun p hp => hq p (by simp [hp])
    simp only [wpM] at h
    have step : ∀ {tr : List Rec} {r0 : Rec}, (Ext H0 r0.H ∧ Ext H0 r0.H' ∧ (isR o.op = true → wantedA ops r0.e o = some true → execN P (oval r0.e) H0 o.op = some (r0.v, H0))) →
        (∀ (i : Nat) (o : Oper) (r : Rec), (l.take m)[i]? = some o → tr[i]? = some r → Ext H0 r.H ∧ Ext H0 r.H' ∧ (isR o.op = true → wantedA ops r.e o = some true → execN P (oval r.e) H0 o.op = some (r.v, H0))) →
        ∀ (i : Nat) (o' : Oper) (r : Rec), ((o :: l).take (m + 1))[i]? = some o' → (r0 :: tr)[i]? = some r → Ext H0 r.H ∧ Ext H0 r.H' ∧ (isR o'.op = true → wantedA ops r.e o' = some true → execN P (oval r.e) H0 o'.op = some (r.v, H0)) := by
      intro tr r0 h1 h2 i o' r ho hr
      cases i with
      | zero => simp at ho hr; subst ho; subst hr; exact h1
      | succ i => exact h2 i o' r (by simpa using ho) (by simpa using hr)
    cases hw : wantedA ops e o with
    | none => rw [hw] at h; exact h.elim
    | some b =>
      rw [hw] at h
      cases b with
      | false =>
        obtain ⟨hm, tr, e', H', h1, h2, h3⟩ := wpM_trace hq' hE (h.2 rfl)
        exact ⟨by simp; omega, _, e', H', .skip hw h1, step ⟨hE, hE, fun _ h => by rw [hw] at h; cases h⟩ h2, h3⟩
      | true =>
        obtain ⟨hd, h⟩ := h.1 rfl
        cases hR : isR o.op with
        | true =>
          simp only [rdH, bkH, hR, if_true] at h
          cases hx : execN P (oval e) H0 o.op with
          | none => rw [hx] at h; exact h.elim
          | some x =>
            obtain ⟨v, H1⟩ := x
            have hH := execN_same (isR_notW hR) hx
            rw [hx] at h
            have hx' : execN P (oval e) H0 o.op = some (v, H0) := by rw [hx, hH]
            have h : wpM P nt ops H0 m l (putDst e o.dst v) H K := h
            obtain ⟨hm, tr, e', H', h1, h2, h3⟩ := wpM_trace hq' hE h
            exact ⟨by simp; omega, _, e', H', .op hw (execN_ext hR hE hx') hd h1, step ⟨hE, hE, fun _ _ => hx'⟩ h2, h3⟩
        | false =>
          simp only [rdH, bkH, hR, Bool.false_eq_true, if_false] at h
          cases hx : execN P (oval e) H o.op with
          | none => rw [hx] at h; exact h.elim
          | some x =>
            obtain ⟨v, H1⟩ := x
            have hE1 : Ext H H1 := by
              cases hW : isW o.op with
              | false => rw [execN_same hW hx]; exact .refl _
              | true => exact execN_allocK (hq o (by simp) hW) hx
            rw [hx] at h
            have h : wpM P nt ops H0 m l (putDst e o.dst v) H1 K := h
            obtain ⟨hm, tr, e', H', h1, h2, h3⟩ := wpM_trace hq' (hE.trans hE1) h
            exact ⟨by simp; omega, _, e', H', .op hw hx hd h1, step ⟨hE, hE.trans hE1, fun h => by rw [hR] at h; cases h⟩ h2, h3⟩
/-- The region that comes first, its order open: behind m operations, which write nothing but new rows, all are in order. -/
theorem L_regM (hm : P.follows .mixedOrders = true) (m : Nat) {id : Nat} {l : List Oper} {cs : List Code} {Q : Ex → Env → AH → Prop} (ks : List Nat) (hlt : m < l.length) (hs : tailS m l.toArray = true)
    (h : ∀ K : Env → AH → Prop, (∀ e' H', AWL P nt cs e' H' Q → K e' H') → wpM P nt l.toArray H m l e H fun e H => K (ekeep ks e) H) : AWL P nt (.region id l.toArray true :: cs) e H Q := by
  obtain ⟨oL, tl, hl⟩ : ∃ oL tl, l.drop m = oL :: tl := ⟨l[m], l.drop (m + 1), List.drop_eq_getElem_cons hlt⟩
  simp only [tailS, Bool.and_eq_true, List.all_eq_true, Bool.or_eq_true, Bool.not_eq_true', List.mem_range, decide_eq_true_eq] at hs
  have h' := h (fun e' H' => AWL P nt cs e' H' Q) fun e' H' h => h
  obtain ⟨-, tr, e', H', hT, hX, hk⟩ := wpM_trace (fun o ho hW => by rcases hs.1.2 o ho with h1 | h1; rw [hW] at h1; cases h1; exact h1) (.refl H) h'
  rw [hl] at hk
  have htl : (l.take m).length = m := by simp; omega
  refine AWL_cons (AW_drawK hm ks (l := l.take m) (oL := oL) (tl := tl) (by rw [← hl]; simp) hT hs.1.1 ?_ ?_ (wpO_sound hk))
  · intro i j o p r s ho hp hri hsj hR hW hw h1 h2
    obtain ⟨-, -, g⟩ := hX i o r ho hri
    obtain ⟨e1, e2, -⟩ := hX j p s hp hsj
    have g := g hR hw
    exact ⟨execN_ext hR e1 g, execN_ext hR e2 g⟩
  · intro k h1 h2 i hi
    rw [htl] at h1
    rcases hs.2 k h2 with h3 | h3
    · omega
    · exact h3 i hi
@[congr] theorem c_wpM {m : Nat} {l : List Oper} {e e' : Env} {H H' : AH} {K : Env → AH → Prop} (h : e = e') (h' : H = H') : wpM P nt ops H0 m l e H K = wpM P nt ops H0 m l e' H' K := by rw [h, h']
@[simp] theorem m_zero (l : List Oper) (K : Env → AH → Prop) : wpM P nt ops H0 0 l e H K = wpO P nt ops l e H K := by cases l <;> rfl
@[simp] theorem m_consN (m : Nat) (d : Option Tmp) (op : Op) (t : TypeId) (p : String) (af : Array Edge) (rest : List Oper) (K : Env → AH → Prop) : wpM P nt ops H0 (m + 1) (⟨d, op, t, p, af, none⟩ :: rest) e H K =
      (dstOk nt d = true ∧ resS (execN P (oval e) (rdH op H0 H) op) (holdQ (fun v H' => wpM P nt ops H0 m rest (putDst e d v) (bkH op H H') K) ⟨⟩)) := by
  simp only [wpM, wantedA, wantS, holdQ]
  simp
end
end Go.Proofs.Ytbimapbcpmeooaa.AX

/- A plain reading of runs: a scope that is left without a jump. -/
namespace Go.Proofs.Ytbimapbcpmeooaa.AX
open Go Go.RowKit

section
variable {F : Fence} {n : Nat} {P : Program} {Q : Exit → Act → World → Prop} {a : Act} {w : World}
theorem stepR_scope {b : Frame} {a : Act} {k : List Item} {cs : List Frame} {w : World} {c : Code} : step P (lone (b.atR a (.code (.scope c) :: k)) cs w) = .next (lone (b.atR a (.code c :: .inScope c :: k)) cs w) :=
  step_lone_go (by simp [stepG, stepG.exec, Frame.atR])
theorem stepR_inScope {b : Frame} {a : Act} {k : List Item} {cs : List Frame} {w : World} {c : Code} : step P (lone (b.atR a (.inScope c :: k)) cs w) = .next (lone (b.atR a k) cs w) :=
  step_lone_go (by simp [stepG, stepG.exec, Frame.atR])
theorem wpIn_scope_straight {c : Code} (h : c.wpIn F n P (Exit.noGoto Q) a w) : (Code.scope c).wpIn F n P Q a w := by
  intro b k cs hro hb hr
  have h0 : (lone (b.atR a (.code (.scope c) :: k)) cs w).fenced P F := fenced_calm hb hr rfl
  obtain ⟨e, a₁, w₁, hq, harr⟩ := h b (.inScope c :: k) cs hro hb hr
  cases e with
  | normal => exact ⟨.normal, a₁, w₁, hq, .head h0 stepR_scope (StepsIn.trans harr (.one (fenced_calm hb hr rfl) stepR_inScope))⟩
  | exit id =>
    have hx : exitTo id (.inScope c :: k) = exitTo id k := by simp [exitTo]
    exact ⟨.exit id, a₁, w₁, hq, fun k' hk => .head h0 stepR_scope (harr.1 k' (by rw [hx]; exact hk)),
      fun hr' hk => let ⟨k₁, h1, h2⟩ := harr.2 hr' (by rw [hx]; exact hk); ⟨k₁, h1, .head h0 stepR_scope h2⟩⟩
  | goto l => exact hq.elim
  | ret => exact ⟨_, a₁, w₁, hq, .of_steps (.one h0 stepR_scope) harr⟩
  | panic ch => exact ⟨_, a₁, w₁, hq, .of_steps (.one h0 stepR_scope) harr⟩
  | outgrown => exact ⟨_, a₁, w₁, hq, .of_steps (.one h0 stepR_scope) harr⟩
end
section
variable {P : Program} {nt : Nat} {e : Env} {H : AH}
/-- No jump is left. -/
def NoJump (Q : Ex → Env → AH → Prop) : Ex → Env → AH → Prop
  | .goto _, _, _ => False
  | x, e, H => Q x e H
theorem AW_scope {c : Code} {Q : Ex → Env → AH → Prop} (h : AW P nt c e H (NoJump Q)) : AW P nt (.scope c) e H Q := fun ro base w0 σ w a ho S hr => by
  refine wpIn_scope_straight (wpIn_mono (h ro base w0 σ w a ho S hr) ?_)
  rintro ex a' w' ⟨x, σ', e', H', rfl, h2, h3, h4, hm, h5⟩
  cases x with
  | normal => exact ⟨.normal, σ', e', H', rfl, h2, h3, h4, hm, h5⟩
  | exit i => exact ⟨.exit i, σ', e', H', rfl, h2, h3, h4, hm, h5⟩
  | goto i => exact h5.elim
  | ret => exact ⟨.ret, σ', e', H', rfl, h2, h3, h4, hm, h5⟩
theorem L_scope {c : Code} {cs : List Code} {Q : Ex → Env → AH → Prop} (h : AWL P nt (flat c) e H (NoJump (More P nt cs Q))) : AWL P nt (.scope c :: cs) e H Q := AWL_cons (AW_scope (AW_of_flat h))
end
end Go.Proofs.Ytbimapbcpmeooaa.AX

/- A plain reading of runs: elements are struck from a slice, in its own row. -/
namespace Go.Proofs.Ytbimapbcpmeooaa.AX
open Go Go.RowKit

section
variable {P : Program} {H : AH}
def clrV : Option AH → Option (Option AV × AH)
  | some H => some (some (.tuple []), H)
  | none => none
@[simp] theorem s_clrV (H : AH) : clrV (some H) = some (some (.tuple []), H) := rfl
@[simp] theorem s_isc_clear (as : Array Operand) (ts : Array TypeId) : isFnCall (.call ⟨.builtin .clear, as, ts⟩) = false := rfl
@[simp] theorem x_clear {ρ : Operand → AV} (x : Operand) (t : TypeId) : execN P ρ H (.call ⟨.builtin .clear, #[x], #[t]⟩) = clrV (aClear P H t (ρ x)) := by
  have : execN P ρ H (.call ⟨.builtin .clear, #[x], #[t]⟩) = (aClear P H t (ρ x)).map fun H' => (some (.tuple []), H') := rfl
  rw [this]
  cases aClear P H t (ρ x) <;> rfl

/-- A slice of the call's own, of one cell each; its row, behind the first N, may have more cells. -/
def OwnT (N : Nat) (H : AH) (v : AV) (l : List AV) : Prop :=
  ∃ r ver stale tl, N ≤ r ∧ v = .slice (some r) 0 l.length ver 1 false ∧ H[r]? = some (.row (l ++ tl) ver stale false) ∧ ∀ x ∈ l ++ tl, x.one = true
theorem OwnT.ext {N : Nat} {H1 : AH} {v : AV} {l : List AV} (h : OwnT N H v l) (hE : Ext H H1) : OwnT N H1 v l := by
  obtain ⟨r, ver, stale, tl, h1, h2, h3, h4⟩ := h
  exact ⟨r, ver, stale, tl, h1, h2, hE.row h3, h4⟩
theorem OwnT.ls {N : Nat} {v : AV} {l : List Int} (h : OwnT N H v (l.map (.int .i64))) : Ls H v l := by
  obtain ⟨r, ver, stale, tl, -, rfl, h3, -⟩ := h
  refine ⟨some r, 0, ver, 1, false, by simp, fun i hi => ⟨r, rfl, rfl, ?_⟩⟩
  rw [ld_row h3, Nat.zero_add, List.getElem?_append_left (by simpa using hi)]
  simp [hi]
theorem OwnF.more {N : Nat} {v : AV} {l : List AV} (h : OwnF N H v l) (hne : l ≠ []) (h1 : ∀ x ∈ l, x.one = true) : OwnT N H v l := by
  rcases h with ⟨h, -⟩ | ⟨r, ver, stale, g1, g2, g3⟩
  · exact absurd h hne
  · exact ⟨r, ver, stale, [], g1, g2, by simpa using g3, by simpa using h1⟩

theorem drop_last {α : Type} {l : List α} {i : Nat} (_hi : i < l.length) : l.take i ++ l.drop (i + 1) ++ l.drop (l.length - 1) = l.eraseIdx i ++ l.drop (l.length - 1) := by
  rw [List.eraseIdx_eq_take_drop_succ]

/-- What stands behind is moved one place down. -/
theorem del_append {t : TypeId} (ht : elT P t = true) {r ver stale i : Nat} {l tl : List AV} (hr : H[r]? = some (.row (l ++ tl) ver stale false)) (hone : ∀ x ∈ l ++ tl, x.one = true) (hi : i < l.length) (hlen : l.length ≤ 16777216) (f : Bool) :
    ∃ stale', aAppend P H t t (.slice (some r) 0 i ver 1 false) (.slice (some r) (i + 1) (l.length - (i + 1)) ver 1 f) = some (.slice (some r) 0 (l.length - 1) ver 1 false, H.set r (.row (l.eraseIdx i ++ (l.drop (l.length - 1) ++ tl)) ver stale' false)) := by
  obtain ⟨e, I, h1, h2, h3, h4, -⟩ := elT_some ht
  have hrl : r < H.length := (List.getElem?_eq_some_iff.1 hr).1
  unfold aAppend
  by_cases hl : i + 1 = l.length
  · refine ⟨stale, ?_⟩
    have hsrc : aSrc P H t 1 (.slice (some r) (i + 1) (l.length - (i + 1)) ver 1 f) = some (0, []) := by
      simp [aSrc, h1, hl]
    have he : l.eraseIdx i ++ (l.drop (l.length - 1) ++ tl) = l ++ tl := by
      rw [← List.append_assoc, List.eraseIdx_eq_take_drop_succ, hl, List.drop_length, List.append_nil, show l.length - 1 = i by omega, List.take_append_drop]
    have hs : H.set r (.row (l ++ tl) ver stale false) = H := by
      apply List.ext_getElem?
      intro j
      rw [List.getElem?_set]
      split
      · rename_i h; subst h; exact hr.symm
      · rfl
    rw [he, hs]
    simp [h1, h2, h3, h4, hsrc, show l.length - 1 = i by omega]
  · obtain ⟨n, hn⟩ : ∃ n, n = l.length - (i + 1) := ⟨_, rfl⟩
    have hn0 : 0 < n := by omega
    have hvs : (l.drop (i + 1)).length = n := by simp [hn]
    have hld : ldn H r ver n (i + 1) = some (l.drop (i + 1)) := by
      rw [ldn_row hr, List.drop_append_of_le_length (by omega), ← hvs]
      exact takeKnown_row (fun v hv => one_known (hone v (by simp [List.mem_of_mem_drop hv]))) _
    have hsrc : aSrc P H t 1 (.slice (some r) (i + 1) n ver 1 f) = some (n, l.drop (i + 1)) := by
      simp [aSrc, h1, hn0, hld]
    have hall : (l.drop (i + 1)).all AV.one = true := by
      rw [List.all_eq_true]
      exact fun x hx => hone x (by simp [List.mem_of_mem_drop hx])
    have hcut : (l ++ tl).drop i = (l.drop i ++ tl) := List.drop_append_of_le_length (by omega)
    have htk : (takeKnown n ((l ++ tl).drop i)).isSome = true := by
      have e : l.drop i ++ tl = (l.drop i).take n ++ ((l.drop i).drop n ++ tl) := by rw [← List.append_assoc, List.take_append_drop]
      have hl2 : ((l.drop i).take n).length = n := by simp; omega
      rw [hcut, e]
      have := takeKnown_row (l := (l.drop i).take n) (fun v hv => one_known (hone v (by simp [List.mem_of_mem_drop (List.mem_of_mem_take hv)]))) ((l.drop i).drop n ++ tl)
      rw [hl2] at this
      rw [this]; rfl
    have hin : inPlace H r 0 i n ver 1 (l.drop (i + 1)) = some (H.set r (.row (l.eraseIdx i ++ (l.drop (l.length - 1) ++ tl)) ver (min stale i) false)) := by
      have hne : ∃ x vs, l.drop (i + 1) = x :: vs := by
        cases hd : l.drop (i + 1) with
        | nil => rw [hd] at hvs; simp at hvs; omega
        | cons x vs => exact ⟨x, vs, rfl⟩
      have e2 : (l ++ tl).take i ++ l.drop (i + 1) ++ (l ++ tl).drop (i + n) = l.eraseIdx i ++ (l.drop (l.length - 1) ++ tl) := by
        rw [List.take_append_of_le_length (by omega), List.eraseIdx_eq_take_drop_succ, List.drop_append_of_le_length (by omega), show i + n = l.length - 1 by omega]
      obtain ⟨x, vs, hd⟩ := hne
      rw [← e2]
      rw [← hvs] at htk
      rw [← hvs]
      have hlt : i + (l.drop (i + 1)).length ≤ l.length + tl.length := by rw [hvs]; omega
      rw [hd] at htk hall hlt ⊢
      simp only [inPlace, hr, stn, List.length_append, Nat.mul_one, Nat.zero_add]
      rw [if_pos ⟨trivial, hlt⟩, if_pos ⟨trivial, trivial, hall, htk⟩]
    refine ⟨min stale i, ?_⟩
    rw [← hn]
    simp only [h1, h2, h3, hsrc, hall, hvs, hin, Nat.mul_one, Option.bind_some]
    have hle : i + n ≤ 16777216 := by omega
    simp [h4, show n ≠ 0 by omega, show i + n = l.length - 1 by omega]
    omega

/-- One cell is cleared. -/
theorem del_clear {t : TypeId} {z : AV} (hz : elZ P t = some z) {r ver stale n : Nat} {a tl : List AV} {x : AV} (hr : H[r]? = some (.row (a ++ x :: tl) ver stale false)) (hx : x.one = true) (hz1 : z.one = true) (ha : a.length = n) (f : Bool) :
    aClear P H t (.slice (some r) n 1 ver 1 f) = some (H.set r (.row (a ++ z :: tl) ver (min stale n) false)) := by
  subst ha
  unfold elZ at hz
  split at hz
  case h_2 => cases hz
  rename_i e he
  split at hz
  case h_2 => cases hz
  rename_i I hI
  split at hz
  case isFalse => cases hz
  rename_i hc
  split at hz
  case h_2 => cases hz
  rename_i z' hz'
  obtain rfl := Option.some.inj hz
  have hk : (takeKnown 1 ((a ++ x :: tl).drop a.length)).isSome = true := by
    rw [List.drop_left]
    have := takeKnown_row (l := [x]) (by simpa using one_known hx) tl
    simp only [List.singleton_append, List.length_singleton] at this
    rw [this]; rfl
  unfold aClear
  rw [List.drop_left] at hk
  have hk' : ¬ takeKnown 1 (x :: tl) = none := by intro h; rw [h] at hk; cases hk
  simp only [he, hI, isNilSl, slParts, hc.1, hz']
  simp [stn, hr, hz1, hk']
/-- What returns a list of its own is as good as one that makes just the list's row. -/
theorem AC.tidy {f : FuncId} {args : List AV} {l : List AV} (hne : l ≠ []) (hb : l.all (belB H.length 4) = true) (h : ∀ Q : AV → AH → Prop, (∀ v' H', OwnF H.length H' v' l → Ext H H' → Q v' H') → AC P f args H Q) (Q : AV → AH → Prop)
    (hq : Q (.slice (some H.length) 0 l.length 0 1 false) (H ++ [.row l 0 l.length false])) : AC P f args H Q := by
  refine AC_fin (h _ fun v' H' hO hE => ?_)
  refine ⟨⟨hE.1, fun r o hr ho => .inl (by rw [← hE.2 r hr]; exact ho)⟩, ?_⟩
  have ht : H'.take H.length = H := by
    obtain ⟨T, rfl⟩ := hE.app
    simp
  rcases hO with ⟨h0, -⟩ | ⟨r, ver, stale, hr, rfl, hrow⟩
  · exact absurd h0 hne
  · have h1 : belB H.length 4 (.slice (some r) 0 l.length ver 1 false) = false := by simp [belB]; omega
    have h2 : finSlice H.length H' (.slice (some r) 0 l.length ver 1 false) = some (.slice (some H.length) 0 l.length 0 1 false, .row l 0 l.length false) := by
      simp only [finSlice, hrow, if_pos hr, Nat.mul_one, Nat.zero_add, List.drop_zero, List.take_length]
      rw [if_pos ⟨trivial, Nat.le_refl _, hb⟩]
    have hf : finish H.length H' (.slice (some r) 0 l.length ver 1 false) = (.slice (some H.length) 0 l.length 0 1 false, H ++ [.row l 0 l.length false]) := by
      unfold finish
      rw [h1]
      simp only [Bool.false_eq_true, if_false, h2, ht]
    rw [hf]; exact hq
theorem belB_ints (N : Nat) (l : List Int) : (l.map (AV.int .i64)).all (belB N 4) = true := by
  rw [List.all_eq_true]
  intro x hx
  obtain ⟨i, -, rfl⟩ := List.mem_map.1 hx
  rfl
theorem OwnF.mono {N M : Nat} {v : AV} {l : List AV} (h : OwnF N H v l) (hM : M ≤ N) : OwnF M H v l := by
  rcases h with h | ⟨r, ver, stale, h1, h2, h3⟩
  · exact .inl h
  · exact .inr ⟨r, ver, stale, by omega, h2, h3⟩
theorem ext_of_rows {H0 H1 : AH} (hE : Ext H0 H) {r : Nat} {o : AObj} (hr : H0.length ≤ r) (h : H1 = H.set r o) : Ext H0 H1 := by
  subst h; exact hE.set _ hr
end
end Go.Proofs.Ytbimapbcpmeooaa.AX

/- A plain reading of runs: stepping through a statement whose order is open, whose first operations leave what was there before. -/
namespace Go.Proofs.Ytbimapbcpmeooaa.AX
open Go Go.RowKit

section
variable {P : Program} {nt : Nat} {ops : Array Oper} {e : Env} {H H0 : AH}
/-- What was there before is as it was, after a writing. -/
def extO (o : Op) (H0 H' : AH) : Prop := isW o = true → Ext H0 H'
/-- The first m operations leave what was there before, and what they read lay there before; the others are in order with what they touch. -/
def wpV (P : Program) (nt : Nat) (ops : Array Oper) (H0 : AH) : Nat → List Oper → Env → AH → (Env → AH → Prop) → Prop
  | 0, l, e, H, K => wpT P nt ops l e H K
  | _ + 1, [], e, H, K => K e H
  | m + 1, o :: rest, e, H, K =>
    wantS (wantedA ops e o)
      (dstOk nt o.dst = true ∧
        if isFnCall o.op then callS (opCall P (oval e) o.op) fun f args => exX P H f args fun v H' => wpV P nt ops H0 m rest (putDst e o.dst (some v)) H' K
        else resS (execN P (oval e) (rdH o.op H0 H) o.op) fun v H' => extO o.op H0 H' ∧ wpV P nt ops H0 m rest (putDst e o.dst v) (bkH o.op H H') K)
      (wpV P nt ops H0 m rest (putDst e o.dst none) H K)
theorem wpV_trace : ∀ {m : Nat} {l : List Oper} {e : Env} {H : AH} {K : Env → AH → Prop}, Ext H0 H → wpV P nt ops H0 m l e H K →
    ∃ tr e' H', Trace P nt ops l e H tr e' H' ∧ (∀ (i : Nat) (o : Oper) (r : Rec), i < m → l[i]? = some o → tr[i]? = some r → Ext H0 r.H ∧ Ext H0 r.H' ∧ (isR o.op = true → wantedA ops r.e o = some true → execN P (oval r.e) H0 o.op = some (r.v, H0))) ∧ K e' H'
  | 0, l, e, H, K, _, h => by
    obtain ⟨tr, e', H', h1, h2⟩ := wpT_trace (show wpT P nt ops l e H K from h)
    exact ⟨tr, e', H', h1, fun i o r hi => by omega, h2⟩
  | m + 1, [], e, H, K, _, h => ⟨[], e, H, .nil _ _, by simp, h⟩
  | m + 1, o :: rest, e, H, K, hE, h => by
    simp only [wpV] at h
    have step : ∀ {tr : List Rec} {r0 : Rec}, (Ext H0 r0.H ∧ Ext H0 r0.H' ∧ (isR o.op = true → wantedA ops r0.e o = some true → execN P (oval r0.e) H0 o.op = some (r0.v, H0))) →
        (∀ (i : Nat) (o : Oper) (r : Rec), i < m → rest[i]? = some o → tr[i]? = some r → Ext H0 r.H ∧ Ext H0 r.H' ∧ (isR o.op = true → wantedA ops r.e o = some true → execN P (oval r.e) H0 o.op = some (r.v, H0))) →
        ∀ (i : Nat) (o' : Oper) (r : Rec), i < m + 1 → (o :: rest)[i]? = some o' → (r0 :: tr)[i]? = some r → Ext H0 r.H ∧ Ext H0 r.H' ∧ (isR o'.op = true → wantedA ops r.e o' = some true → execN P (oval r.e) H0 o'.op = some (r.v, H0)) := by
      intro tr r0 h1 h2 i o' r hi ho hr
      cases i with
      | zero => simp at ho hr; subst ho; subst hr; exact h1
      | succ i => exact h2 i o' r (by omega) (by simpa using ho) (by simpa using hr)
    cases hw : wantedA ops e o with
    | none => rw [hw] at h; exact h.elim
    | some b =>
      rw [hw] at h
      cases b with
      | false =>
        obtain ⟨tr, e', H', h1, h2, h3⟩ := wpV_trace hE (h.2 rfl)
        exact ⟨_, e', H', .skip hw h1, step ⟨hE, hE, fun _ h => by rw [hw] at h; cases h⟩ h2, h3⟩
      | true =>
        obtain ⟨hd, h⟩ := h.1 rfl
        split at h
        · rename_i hfn
          cases hc : opCall P (oval e) o.op with
          | none => rw [hc] at h; exact h.elim
          | some x =>
            obtain ⟨f, args⟩ := x
            rw [hc] at h
            obtain ⟨v, H1, hAC, hE1, h⟩ := h
            obtain ⟨tr, e', H', h1, h2, h3⟩ := wpV_trace (hE.trans hE1) h
            refine ⟨_, e', H', .call hw hc hd hAC h1, step ⟨hE, hE.trans hE1, fun hR => ?_⟩ h2, h3⟩
            have := opCall_isW hc
            have := isR_notW hR
            simp_all
        · rename_i hnf
          cases hR : isR o.op with
          | true =>
            simp only [rdH, bkH, hR, if_true] at h
            cases hx : execN P (oval e) H0 o.op with
            | none => rw [hx] at h; exact h.elim
            | some x =>
              obtain ⟨v, H1⟩ := x
              have hH := execN_same (isR_notW hR) hx
              rw [hx] at h
              have hx' : execN P (oval e) H0 o.op = some (v, H0) := by rw [hx, hH]
              have h : wpV P nt ops H0 m rest (putDst e o.dst v) H K := h.2
              obtain ⟨tr, e', H', h1, h2, h3⟩ := wpV_trace hE h
              exact ⟨_, e', H', .op hw (execN_ext hR hE hx') hd h1, step ⟨hE, hE, fun _ _ => hx'⟩ h2, h3⟩
          | false =>
            simp only [rdH, bkH, hR, Bool.false_eq_true, if_false] at h
            cases hx : execN P (oval e) H o.op with
            | none => rw [hx] at h; exact h.elim
            | some x =>
              obtain ⟨v, H1⟩ := x
              rw [hx] at h
              have hE1 : Ext H0 H1 := by
                cases hW : isW o.op with
                | false => rw [execN_same hW hx]; exact hE
                | true => exact h.1 hW
              have h : wpV P nt ops H0 m rest (putDst e o.dst v) H1 K := h.2
              obtain ⟨tr, e', H', h1, h2, h3⟩ := wpV_trace hE1 h
              exact ⟨_, e', H', .op hw hx hd h1, step ⟨hE, hE1, fun h => by rw [hR] at h; cases h⟩ h2, h3⟩
/-- Reads and writings that are in no order are among the first m operations. -/
def partV (m : Nat) (ops : Array Oper) : Bool :=
  ordOK ops && (let ms := masks ops.toList []; ops.toList.zipIdx.all fun x => !isR x.1.op || ops.toList.zipIdx.all fun y => !isW y.1.op || anc ms x.2 y.2 || anc ms y.2 x.2 || (decide (x.2 < m) && decide (y.2 < m)))
theorem L_regV (hm : P.follows .mixedOrders = true) (m : Nat) {id : Nat} {l : List Oper} {cs : List Code} {Q : Ex → Env → AH → Prop} (ks : List Nat) (hs : partV m l.toArray = true)
    (h : ∀ K : Env → AH → Prop, (∀ e' H', AWL P nt cs e' H' Q → K e' H') → wpV P nt l.toArray H m l e H fun e H => K (ekeep ks e) H) : AWL P nt (.region id l.toArray true :: cs) e H Q := by
  simp only [partV, Bool.and_eq_true, List.all_eq_true, Bool.or_eq_true, Bool.not_eq_true', decide_eq_true_eq] at hs
  have mem : ∀ (i : Nat) (o : Oper), l.toArray[i]? = some o → (o, i) ∈ l.toArray.toList.zipIdx := by
    intro i o ho
    rw [List.mk_mem_zipIdx_iff_getElem?, Array.getElem?_toList]; exact ho
  obtain ⟨tr, e', H', hT, hX, hk⟩ := wpV_trace (.refl H) (h (fun e' H' => AWL P nt cs e' H' Q) fun e' H' h => h)
  refine AWL_cons (AW_draw hm ks hT ⟨hs.1, ?_⟩ hk)
  intro i j o p r s ho hp hri hsj hR hW hw h1 h2
  rcases hs.2 _ (mem i o ho) with h3 | h3
  · rw [hR] at h3; cases h3
  rcases h3 _ (mem j p hp) with ((h4 | h4) | h4) | ⟨h4, h5⟩
  · rw [hW] at h4; cases h4
  · rw [h1] at h4; cases h4
  · rw [h2] at h4; cases h4
  obtain ⟨-, -, g⟩ := hX i o r h4 (by simpa using ho) hri
  obtain ⟨e1, e2, -⟩ := hX j p s h5 (by simpa using hp) hsj
  have g := g hR hw
  exact ⟨execN_ext hR e1 g, execN_ext hR e2 g⟩
@[congr] theorem c_wpVx {m : Nat} {l : List Oper} {e e' : Env} {H H' : AH} {K : Env → AH → Prop} (h : e = e') (h' : H = H') : wpV P nt ops H0 m l e H K = wpV P nt ops H0 m l e' H' K := by rw [h, h']
@[simp] theorem wv_zero (l : List Oper) (K : Env → AH → Prop) : wpV P nt ops H0 0 l e H K = wpT P nt ops l e H K := by cases l <;> rfl
@[simp] theorem wv_consN (m : Nat) (d : Option Tmp) (op : Op) (t : TypeId) (p : String) (af : Array Edge) (rest : List Oper) (K : Env → AH → Prop) : wpV P nt ops H0 (m + 1) (⟨d, op, t, p, af, none⟩ :: rest) e H K =
      (dstOk nt d = true ∧
        if isFnCall op then callS (opCall P (oval e) op) fun f args => exX P H f args (holdQ (fun v H' => wpV P nt ops H0 m rest (putDst e d (some v)) H' K) ⟨⟩)
        else resS (execN P (oval e) (rdH op H0 H) op) (holdQ (fun v H' => extO op H0 H' ∧ wpV P nt ops H0 m rest (putDst e d v) (bkH op H H') K) ⟨⟩)) := by
  simp only [wpV, wantedA, wantS, holdQ]
  simp
/-- Operations that leave what was there before; the marked ones read what lay there before. -/
def wpU (P : Program) (nt : Nat) (ops : Array Oper) (H0 : AH) : List Bool → List Oper → Env → AH → (Env → AH → Prop) → Prop
  | [], l, e, H, K => wpT P nt ops l e H K
  | _ :: _, [], e, H, K => K e H
  | b :: ms, o :: rest, e, H, K =>
    wantS (wantedA ops e o)
      (dstOk nt o.dst = true ∧
        if isFnCall o.op then callS (opCall P (oval e) o.op) fun f args => exX P H f args fun v H' => wpU P nt ops H0 ms rest (putDst e o.dst (some v)) H' K
        else if b then resS (execN P (oval e) H0 o.op) fun v _ => wpU P nt ops H0 ms rest (putDst e o.dst v) H K
        else resS (execN P (oval e) H o.op) fun v H' => extO o.op H0 H' ∧ wpU P nt ops H0 ms rest (putDst e o.dst v) H' K)
      (wpU P nt ops H0 ms rest (putDst e o.dst none) H K)
theorem wpU_trace : ∀ {ms : List Bool} {l : List Oper} {e : Env} {H : AH} {K : Env → AH → Prop}, (∀ (i : Nat) (o : Oper), ms[i]? = some true → l[i]? = some o → isR o.op = true) → Ext H0 H → wpU P nt ops H0 ms l e H K →
    ∃ tr e' H', Trace P nt ops l e H tr e' H' ∧ (∀ (i : Nat) (o : Oper) (r : Rec), i < ms.length → l[i]? = some o → tr[i]? = some r → Ext H0 r.H ∧ Ext H0 r.H' ∧ (ms[i]? = some true → wantedA ops r.e o = some true → execN P (oval r.e) H0 o.op = some (r.v, H0))) ∧ K e' H'
  | [], l, e, H, K, _, _, h => by
    obtain ⟨tr, e', H', h1, h2⟩ := wpT_trace (show wpT P nt ops l e H K from h)
    exact ⟨tr, e', H', h1, fun i o r hi => by simp at hi, h2⟩
  | b :: ms, [], e, H, K, _, _, h => ⟨[], e, H, .nil _ _, by simp, h⟩
  | b :: ms, o :: rest, e, H, K, hq, hE, h => by
    have hq' : ∀ (i : Nat) (o : Oper), ms[i]? = some true → rest[i]? = some o → isR o.op = true := fun i p hi hp => hq (i + 1) p (by simpa using hi) (by simpa using hp)
    simp only [wpU] at h
    have step : ∀ {tr : List Rec} {r0 : Rec}, (Ext H0 r0.H ∧ Ext H0 r0.H' ∧ (b = true → wantedA ops r0.e o = some true → execN P (oval r0.e) H0 o.op = some (r0.v, H0))) →
        (∀ (i : Nat) (o : Oper) (r : Rec), i < ms.length → rest[i]? = some o → tr[i]? = some r → Ext H0 r.H ∧ Ext H0 r.H' ∧ (ms[i]? = some true → wantedA ops r.e o = some true → execN P (oval r.e) H0 o.op = some (r.v, H0))) →
        ∀ (i : Nat) (o' : Oper) (r : Rec), i < (b :: ms).length → (o :: rest)[i]? = some o' → (r0 :: tr)[i]? = some r → Ext H0 r.H ∧ Ext H0 r.H' ∧ ((b :: ms)[i]? = some true → wantedA ops r.e o' = some true → execN P (oval r.e) H0 o'.op = some (r.v, H0)) := by
      intro tr r0 h1 h2 i o' r hi ho hr
      cases i with
      | zero => simp at ho hr; subst ho; subst hr; simpa using h1
      | succ i => simpa using h2 i o' r (by simpa using hi) (by simpa using ho) (by simpa using hr)
    cases hw : wantedA ops e o with
    | none => rw [hw] at h; exact h.elim
    | some c =>
      rw [hw] at h
      cases c with
      | false =>
        obtain ⟨tr, e', H', h1, h2, h3⟩ := wpU_trace hq' hE (h.2 rfl)
        exact ⟨_, e', H', .skip hw h1, step ⟨hE, hE, fun _ h => by rw [hw] at h; cases h⟩ h2, h3⟩
      | true =>
        obtain ⟨hd, h⟩ := h.1 rfl
        split at h
        · rename_i hfn
          cases hc : opCall P (oval e) o.op with
          | none => rw [hc] at h; exact h.elim
          | some x =>
            obtain ⟨f, args⟩ := x
            rw [hc] at h
            obtain ⟨v, H1, hAC, hE1, h⟩ := h
            obtain ⟨tr, e', H', h1, h2, h3⟩ := wpU_trace hq' (hE.trans hE1) h
            refine ⟨_, e', H', .call hw hc hd hAC h1, step ⟨hE, hE.trans hE1, fun hb => ?_⟩ h2, h3⟩
            have := opCall_isW hc
            have := isR_notW (hq 0 o (by simp [hb]) (by simp))
            simp_all
        · rename_i hnf
          split at h
          · rename_i hb
            have hR := hq 0 o (by simp [hb]) (by simp)
            cases hx : execN P (oval e) H0 o.op with
            | none => rw [hx] at h; exact h.elim
            | some x =>
              obtain ⟨v, H1⟩ := x
              have hH := execN_same (isR_notW hR) hx
              rw [hx] at h
              have hx' : execN P (oval e) H0 o.op = some (v, H0) := by rw [hx, hH]
              have h : wpU P nt ops H0 ms rest (putDst e o.dst v) H K := h
              obtain ⟨tr, e', H', h1, h2, h3⟩ := wpU_trace hq' hE h
              exact ⟨_, e', H', .op hw (execN_ext hR hE hx') hd h1, step ⟨hE, hE, fun _ _ => hx'⟩ h2, h3⟩
          · rename_i hb
            cases hx : execN P (oval e) H o.op with
            | none => rw [hx] at h; exact h.elim
            | some x =>
              obtain ⟨v, H1⟩ := x
              rw [hx] at h
              have hE1 : Ext H0 H1 := by
                cases hW : isW o.op with
                | false => rw [execN_same hW hx]; exact hE
                | true => exact h.1 hW
              have h : wpU P nt ops H0 ms rest (putDst e o.dst v) H1 K := h.2
              obtain ⟨tr, e', H', h1, h2, h3⟩ := wpU_trace hq' hE1 h
              exact ⟨_, e', H', .op hw hx hd h1, step ⟨hE, hE1, fun h => absurd h hb⟩ h2, h3⟩
/-- Reads that are in no order with a writing are marked, and the writing is among the first ones. -/
def markS (ms : List Bool) (ops : Array Oper) : Bool :=
  ordOK ops && (let mk := masks ops.toList []; ops.toList.zipIdx.all fun x => !isR x.1.op || ops.toList.zipIdx.all fun y => !isW y.1.op || anc mk x.2 y.2 || anc mk y.2 x.2 || ((ms[x.2]?).getD false && decide (x.2 < ms.length) && decide (y.2 < ms.length))) &&
    ops.toList.zipIdx.all fun z => !((ms[z.2]?).getD false) || isR z.1.op
theorem L_regU (hm : P.follows .mixedOrders = true) (ms : List Bool) {id : Nat} {l : List Oper} {cs : List Code} {Q : Ex → Env → AH → Prop} (ks : List Nat) (hs : markS ms l.toArray = true)
    (h : ∀ K : Env → AH → Prop, (∀ e' H', AWL P nt cs e' H' Q → K e' H') → wpU P nt l.toArray H ms l e H fun e H => K (ekeep ks e) H) : AWL P nt (.region id l.toArray true :: cs) e H Q := by
  simp only [markS, Bool.and_eq_true, List.all_eq_true, Bool.or_eq_true, Bool.not_eq_true', decide_eq_true_eq] at hs
  have mem : ∀ (i : Nat) (o : Oper), l.toArray[i]? = some o → (o, i) ∈ l.toArray.toList.zipIdx := by
    intro i o ho
    rw [List.mk_mem_zipIdx_iff_getElem?, Array.getElem?_toList]; exact ho
  obtain ⟨tr, e', H', hT, hX, hk⟩ := wpU_trace (fun i o hi ho => by
    rcases hs.2 _ (mem i o (by simpa using ho)) with h1 | h1
    · simp [hi] at h1
    · exact h1) (.refl H) (h (fun e' H' => AWL P nt cs e' H' Q) fun e' H' h => h)
  refine AWL_cons (AW_draw hm ks hT ⟨hs.1.1, ?_⟩ hk)
  intro i j o p r s ho hp hri hsj hR hW hw h1 h2
  rcases hs.1.2 _ (mem i o ho) with h3 | h3
  · rw [hR] at h3; cases h3
  rcases h3 _ (mem j p hp) with ((h4 | h4) | h4) | ⟨⟨h4, h6⟩, h5⟩
  · rw [hW] at h4; cases h4
  · rw [h1] at h4; cases h4
  · rw [h2] at h4; cases h4
  have h4' : ms[i]? = some true := by
    cases hc : ms[i]? with
    | none => rw [hc] at h4; simp at h4
    | some c => rw [hc] at h4; simp at h4; rw [h4]
  obtain ⟨-, -, g⟩ := hX i o r h6 (by simpa using ho) hri
  obtain ⟨e1, e2, -⟩ := hX j p s h5 (by simpa using hp) hsj
  have g := g h4' hw
  exact ⟨execN_ext hR e1 g, execN_ext hR e2 g⟩
@[congr] theorem c_wpU {ms : List Bool} {l : List Oper} {e e' : Env} {H H' : AH} {K : Env → AH → Prop} (h : e = e') (h' : H = H') : wpU P nt ops H0 ms l e H K = wpU P nt ops H0 ms l e' H' K := by rw [h, h']
@[simp] theorem wu_nil (l : List Oper) (K : Env → AH → Prop) : wpU P nt ops H0 [] l e H K = wpT P nt ops l e H K := by cases l <;> rfl
@[simp] theorem wu_end (ms : List Bool) (K : Env → AH → Prop) : wpU P nt ops H0 ms [] e H K = K e H := by cases ms <;> rfl
@[simp] theorem wu_consN (b : Bool) (ms : List Bool) (d : Option Tmp) (op : Op) (t : TypeId) (p : String) (af : Array Edge) (rest : List Oper) (K : Env → AH → Prop) : wpU P nt ops H0 (b :: ms) (⟨d, op, t, p, af, none⟩ :: rest) e H K =
      (dstOk nt d = true ∧
        if isFnCall op then callS (opCall P (oval e) op) fun f args => exX P H f args (holdQ (fun v H' => wpU P nt ops H0 ms rest (putDst e d (some v)) H' K) ⟨⟩)
        else if b then resS (execN P (oval e) H0 op) (holdQ (fun v _ => wpU P nt ops H0 ms rest (putDst e d v) H K) ⟨⟩)
        else resS (execN P (oval e) H op) (holdQ (fun v H' => extO op H0 H' ∧ wpU P nt ops H0 ms rest (putDst e d v) H' K) ⟨⟩)) := by
  simp only [wpU, wantedA, wantS, holdQ]
  simp
@[simp] theorem extO_load (t : TypeId) (x : Operand) : extO (.load t x) H0 H = True := eq_true fun h => by simp [isW] at h
@[simp] theorem extO_move (x : Operand) : extO (.move x) H0 H = True := eq_true fun h => by simp [isW] at h
@[simp] theorem extO_binOp (o : BinOp) (t u : TypeId) (x y : Operand) : extO (.binOp o t x y u) H0 H = True := eq_true fun h => by simp [isW] at h
@[simp] theorem extO_unOp (o : UnOp) (t : TypeId) (x : Operand) : extO (.unOp o t x) H0 H = True := eq_true fun h => by simp [isW] at h
@[simp] theorem extO_convert (a b : TypeId) (x : Operand) : extO (.convert a b x) H0 H = True := eq_true fun h => by simp [isW] at h
@[simp] theorem extO_pick (x y z : Operand) : extO (.pick x y z) H0 H = True := eq_true fun h => by simp [isW] at h
@[simp] theorem extO_fieldAddr (t : TypeId) (x : Operand) (f : Nat) : extO (.fieldAddr t x f) H0 H = True := eq_true fun h => by simp [isW] at h
@[simp] theorem extO_field (t : TypeId) (x : Operand) (f : Nat) : extO (.field t x f) H0 H = True := eq_true fun h => by simp [isW] at h
@[simp] theorem extO_indexAddr (t : TypeId) (x i : Operand) : extO (.indexAddr t x i) H0 H = True := eq_true fun h => by simp [isW] at h
@[simp] theorem extO_index (t : TypeId) (x i : Operand) : extO (.index t x i) H0 H = True := eq_true fun h => by simp [isW] at h
@[simp] theorem extO_extract (x : Operand) (i : Nat) : extO (.extract x i) H0 H = True := eq_true fun h => by simp [isW] at h
@[simp] theorem extO_assign (x : Operand) : extO (.assign x) H0 H = True := eq_true fun h => by simp [isW] at h
@[simp] theorem extO_build (t : TypeId) (ps : Array (Nat × Operand)) : extO (.build t ps) H0 H = True := eq_true fun h => by simp [isW] at h
@[simp] theorem extO_makeFunc (f : Fn) (a b : Array Operand) : extO (.makeFunc f a b) H0 H = True := eq_true fun h => by simp [isW] at h
@[simp] theorem rd_store (t : TypeId) (x y : Operand) : rdH (.store t x y) H0 H = H := rfl
@[simp] theorem bk_store (t : TypeId) (x y : Operand) : bkH (.store t x y) H H0 = H0 := rfl
@[simp] theorem extO_store (t : TypeId) (x y : Operand) : extO (.store t x y) H0 H = Ext H0 H := propext ⟨fun h => h rfl, fun h _ => h⟩
@[simp] theorem extO_alloc (t : TypeId) : extO (.alloc t) H0 H = Ext H0 H := propext ⟨fun h => h rfl, fun h _ => h⟩
@[simp] theorem extO_buildSlice (t : TypeId) (n : Nat) (ps : Array (Nat × Operand)) : extO (.buildSlice t n ps) H0 H = Ext H0 H := propext ⟨fun h => h rfl, fun h _ => h⟩
@[simp] theorem extO_call (c : Go.Call) : extO (.call c) H0 H = (isW (.call c) = true → Ext H0 H) := rfl
end
end Go.Proofs.Ytbimapbcpmeooaa.AX

/- A plain reading of runs: stepping through a statement whose order is open, whose loads are from other rows than those that are written. -/
namespace Go.Proofs.Ytbimapbcpmeooaa.AX
open Go Go.RowKit

/-- All old rows but some are as they were. -/
def KeepS (S : List Nat) (H H' : AH) : Prop := H.length ≤ H'.length ∧ ∀ j : Nat, j ∉ S → j < H.length → H'[j]? = H[j]?
theorem KeepS.refl (S : List Nat) (H : AH) : KeepS S H H := ⟨Nat.le_refl _, fun _ _ _ => rfl⟩
theorem KeepS.ext {S : List Nat} {A B C : AH} (h : KeepS S A B) (k : Ext B C) : KeepS S A C := ⟨Nat.le_trans h.1 k.1, fun j h1 h2 => by rw [k.2 j (by have := h.1; omega), h.2 j h1 h2]⟩
theorem KeepS.set {S : List Nat} {A B : AH} (h : KeepS S A B) {r : Nat} (hr : r ∈ S) (o : AObj) : KeepS S A (B.set r o) := ⟨by simpa using h.1, fun j h1 h2 => by rw [List.getElem?_set_ne (fun e => h1 (by rw [← e]; exact hr)), h.2 j h1 h2]⟩
theorem loadV_keep {P : Program} {t : TypeId} {S : List Nat} {H H1 : AH} {r off ver : Nat} {v : AV} (hr : r ∉ S) (hK : KeepS S H H1) (h : loadV P t H (.ptr r off ver) = some v) : loadV P t H1 (.ptr r off ver) = some v := by
  by_cases hlt : r < H.length
  · have heq := hK.2 r hr hlt
    have h1 : ∀ n, ldn H1 r ver n off = ldn H r ver n off := fun n => by cases n <;> simp [ldn, heq]
    have h2 : ld H1 r off ver = ld H r off ver := by simp [ld, heq]
    have e : loadV P t H1 (.ptr r off ver) = loadV P t H (.ptr r off ver) := by
      unfold loadV
      cases P.underlying t <;> cases P.info? t <;> simp [h1, h2]
    rw [e]; exact h
  · have hn : H[r]? = none := List.getElem?_eq_none (by omega)
    unfold loadV at h ⊢
    cases hd : P.underlying t with
    | none => rw [hd] at h; simp at h
    | some d =>
      cases hi : P.info? t with
      | none => rw [hd, hi] at h; simp at h
      | some I =>
        rw [hd, hi] at h
        simp only at h ⊢
        by_cases ha : isAggD d = true
        · rw [if_pos ha] at h ⊢
          cases hs : I.size with
          | zero => rw [hs] at h; simpa [ldn] using h
          | succ n => rw [hs] at h; simp [ldn, hn] at h
        · rw [if_neg ha] at h
          simp [ld, hn] at h
/-- A load from another row. -/
def ldP (P : Program) (S : List Nat) (t : TypeId) (H0 : AH) (v : AV) : Option AV := match v with
  | .ptr r off ver => if r ∈ S then none else loadV P t H0 (.ptr r off ver)
  | _ => none
def ldS (P : Program) (S : List Nat) (H0 : AH) (ρ : Operand → AV) (op : Op) : Option AV := match op with
  | .load t x => ldP P S t H0 (ρ x)
  | _ => none
@[simp] theorem ldS_load {P : Program} {S : List Nat} {H0 : AH} {ρ : Operand → AV} (t : TypeId) (x : Operand) : ldS P S H0 ρ (.load t x) = ldP P S t H0 (ρ x) := rfl
@[simp] theorem ldP_ptr {P : Program} {S : List Nat} {H0 : AH} (t : TypeId) (r off ver : Nat) : ldP P S t H0 (.ptr r off ver) = if r ∈ S then none else loadV P t H0 (.ptr r off ver) := rfl
theorem ldS_exec {P : Program} {S : List Nat} {H0 H1 : AH} {ρ : Operand → AV} {op : Op} {v : AV} (hK : KeepS S H0 H1) (h : ldS P S H0 ρ op = some v) : execN P ρ H1 op = some (some v, H1) := by
  unfold ldS at h
  split at h
  case h_2 => cases h
  rename_i t x
  unfold ldP at h
  split at h
  case h_2 => cases h
  rename_i r off ver hx
  split at h
  · cases h
  · rename_i hr
    rw [x_load, hx, loadV_keep hr hK h]; rfl
def keepO (S : List Nat) (o : Op) (H0 H' : AH) : Prop := isW o = true → KeepS S H0 H'
section
variable {P : Program} {nt : Nat} {ops : Array Oper} {e : Env} {H H0 : AH} {S : List Nat}
/-- Operations that leave all old rows but some as they were; the marked ones are loads from other rows. -/
def wpS (P : Program) (nt : Nat) (ops : Array Oper) (S : List Nat) (H0 : AH) : List Bool → List Oper → Env → AH → (Env → AH → Prop) → Prop
  | [], l, e, H, K => wpT P nt ops l e H K
  | _ :: _, [], e, H, K => K e H
  | b :: ms, o :: rest, e, H, K =>
    wantS (wantedA ops e o)
      (dstOk nt o.dst = true ∧
        if isFnCall o.op then callS (opCall P (oval e) o.op) fun f args => exX P H f args fun v H' => wpS P nt ops S H0 ms rest (putDst e o.dst (some v)) H' K
        else if b then resS (val1 H0 (ldS P S H0 (oval e) o.op)) fun v _ => wpS P nt ops S H0 ms rest (putDst e o.dst v) H K
        else resS (execN P (oval e) H o.op) fun v H' => keepO S o.op H0 H' ∧ wpS P nt ops S H0 ms rest (putDst e o.dst v) H' K)
      (wpS P nt ops S H0 ms rest (putDst e o.dst none) H K)
theorem wpS_trace : ∀ {ms : List Bool} {l : List Oper} {e : Env} {H : AH} {K : Env → AH → Prop}, (∀ (i : Nat) (o : Oper), ms[i]? = some true → l[i]? = some o → isR o.op = true) → KeepS S H0 H → wpS P nt ops S H0 ms l e H K →
    ∃ tr e' H', Trace P nt ops l e H tr e' H' ∧ (∀ (i : Nat) (o : Oper) (r : Rec), i < ms.length → l[i]? = some o → tr[i]? = some r → KeepS S H0 r.H ∧ KeepS S H0 r.H' ∧ (ms[i]? = some true → wantedA ops r.e o = some true → ∀ H1, KeepS S H0 H1 → execN P (oval r.e) H1 o.op = some (r.v, H1))) ∧ K e' H'
  | [], l, e, H, K, _, _, h => by
    obtain ⟨tr, e', H', h1, h2⟩ := wpT_trace (show wpT P nt ops l e H K from h)
    exact ⟨tr, e', H', h1, fun i o r hi => by simp at hi, h2⟩
  | b :: ms, [], e, H, K, _, _, h => ⟨[], e, H, .nil _ _, by simp, h⟩
  | b :: ms, o :: rest, e, H, K, hq, hE, h => by
    have hq' : ∀ (i : Nat) (o : Oper), ms[i]? = some true → rest[i]? = some o → isR o.op = true := fun i p hi hp => hq (i + 1) p (by simpa using hi) (by simpa using hp)
    simp only [wpS] at h
    have step : ∀ {tr : List Rec} {r0 : Rec}, (KeepS S H0 r0.H ∧ KeepS S H0 r0.H' ∧ (b = true → wantedA ops r0.e o = some true → ∀ H1, KeepS S H0 H1 → execN P (oval r0.e) H1 o.op = some (r0.v, H1))) →
        (∀ (i : Nat) (o : Oper) (r : Rec), i < ms.length → rest[i]? = some o → tr[i]? = some r → KeepS S H0 r.H ∧ KeepS S H0 r.H' ∧ (ms[i]? = some true → wantedA ops r.e o = some true → ∀ H1, KeepS S H0 H1 → execN P (oval r.e) H1 o.op = some (r.v, H1))) →
        ∀ (i : Nat) (o' : Oper) (r : Rec), i < (b :: ms).length → (o :: rest)[i]? = some o' → (r0 :: tr)[i]? = some r → KeepS S H0 r.H ∧ KeepS S H0 r.H' ∧ ((b :: ms)[i]? = some true → wantedA ops r.e o' = some true → ∀ H1, KeepS S H0 H1 → execN P (oval r.e) H1 o'.op = some (r.v, H1)) := by
      intro tr r0 h1 h2 i o' r hi ho hr
      cases i with
      | zero => simp at ho hr; subst ho; subst hr; simpa using h1
      | succ i => simpa using h2 i o' r (by simpa using hi) (by simpa using ho) (by simpa using hr)
    cases hw : wantedA ops e o with
    | none => rw [hw] at h; exact h.elim
    | some c =>
      rw [hw] at h
      cases c with
      | false =>
        obtain ⟨tr, e', H', h1, h2, h3⟩ := wpS_trace hq' hE (h.2 rfl)
        exact ⟨_, e', H', .skip hw h1, step ⟨hE, hE, fun _ h => by rw [hw] at h; cases h⟩ h2, h3⟩
      | true =>
        obtain ⟨hd, h⟩ := h.1 rfl
        split at h
        · rename_i hfn
          cases hc : opCall P (oval e) o.op with
          | none => rw [hc] at h; exact h.elim
          | some x =>
            obtain ⟨f, args⟩ := x
            rw [hc] at h
            obtain ⟨v, H1, hAC, hE1, h⟩ := h
            obtain ⟨tr, e', H', h1, h2, h3⟩ := wpS_trace hq' (hE.ext hE1) h
            refine ⟨_, e', H', .call hw hc hd hAC h1, step ⟨hE, hE.ext hE1, fun hb => ?_⟩ h2, h3⟩
            have := opCall_isW hc
            have := isR_notW (hq 0 o (by simp [hb]) (by simp))
            simp_all
        · rename_i hnf
          split at h
          · rename_i hb
            cases hx : ldS P S H0 (oval e) o.op with
            | none => rw [hx] at h; exact h.elim
            | some v =>
              rw [hx] at h
              have hx' : ∀ H1, KeepS S H0 H1 → execN P (oval e) H1 o.op = some (some v, H1) := fun H1 hK => ldS_exec hK hx
              have h : wpS P nt ops S H0 ms rest (putDst e o.dst (some v)) H K := h
              obtain ⟨tr, e', H', h1, h2, h3⟩ := wpS_trace hq' hE h
              exact ⟨_, e', H', .op hw (hx' H hE) hd h1, step ⟨hE, hE, fun _ _ => hx'⟩ h2, h3⟩
          · rename_i hb
            cases hx : execN P (oval e) H o.op with
            | none => rw [hx] at h; exact h.elim
            | some x =>
              obtain ⟨v, H1⟩ := x
              rw [hx] at h
              have hE1 : KeepS S H0 H1 := by
                cases hW : isW o.op with
                | false => rw [execN_same hW hx]; exact hE
                | true => exact h.1 hW
              have h : wpS P nt ops S H0 ms rest (putDst e o.dst v) H1 K := h.2
              obtain ⟨tr, e', H', h1, h2, h3⟩ := wpS_trace hq' hE1 h
              exact ⟨_, e', H', .op hw hx hd h1, step ⟨hE, hE1, fun h => absurd h hb⟩ h2, h3⟩
/-- Reads that are in no order with a writing are marked, and the writing is among the first ones. -/
def markT (ms : List Bool) (ops : Array Oper) : Bool :=
  ordOK ops && (let mk := masks ops.toList []; ops.toList.zipIdx.all fun x => !isR x.1.op || ops.toList.zipIdx.all fun y => !isW y.1.op || anc mk x.2 y.2 || anc mk y.2 x.2 || ((ms[x.2]?).getD false && decide (x.2 < ms.length) && decide (y.2 < ms.length))) &&
    ops.toList.zipIdx.all fun z => !((ms[z.2]?).getD false) || isR z.1.op
theorem L_regS (hm : P.follows .mixedOrders = true) (S : List Nat) (ms : List Bool) {id : Nat} {l : List Oper} {cs : List Code} {Q : Ex → Env → AH → Prop} (ks : List Nat) (hs : markT ms l.toArray = true)
    (h : ∀ K : Env → AH → Prop, (∀ e' H', AWL P nt cs e' H' Q → K e' H') → wpS P nt l.toArray S H ms l e H fun e H => K (ekeep ks e) H) : AWL P nt (.region id l.toArray true :: cs) e H Q := by
  simp only [markT, Bool.and_eq_true, List.all_eq_true, Bool.or_eq_true, Bool.not_eq_true', decide_eq_true_eq] at hs
  have mem : ∀ (i : Nat) (o : Oper), l.toArray[i]? = some o → (o, i) ∈ l.toArray.toList.zipIdx := by
    intro i o ho
    rw [List.mk_mem_zipIdx_iff_getElem?, Array.getElem?_toList]; exact ho
  obtain ⟨tr, e', H', hT, hX, hk⟩ := wpS_trace (fun i o hi ho => by
    rcases hs.2 _ (mem i o (by simpa using ho)) with h1 | h1
    · simp [hi] at h1
    · exact h1) (.refl S H) (h (fun e' H' => AWL P nt cs e' H' Q) fun e' H' h => h)
  refine AWL_cons (AW_draw hm ks hT ⟨hs.1.1, ?_⟩ hk)
  intro i j o p r s ho hp hri hsj hR hW hw h1 h2
  rcases hs.1.2 _ (mem i o ho) with h3 | h3
  · rw [hR] at h3; cases h3
  rcases h3 _ (mem j p hp) with ((h4 | h4) | h4) | ⟨⟨h4, h6⟩, h5⟩
  · rw [hW] at h4; cases h4
  · rw [h1] at h4; cases h4
  · rw [h2] at h4; cases h4
  have h4' : ms[i]? = some true := by
    cases hc : ms[i]? with
    | none => rw [hc] at h4; simp at h4
    | some c => rw [hc] at h4; simp at h4; rw [h4]
  obtain ⟨-, -, g⟩ := hX i o r h6 (by simpa using ho) hri
  obtain ⟨e1, e2, -⟩ := hX j p s h5 (by simpa using hp) hsj
  have g := g h4' hw
  exact ⟨g _ e1, g _ e2⟩
@[congr] theorem c_wpS {ms : List Bool} {l : List Oper} {e e' : Env} {H H' : AH} {K : Env → AH → Prop} (h : e = e') (h' : H = H') : wpS P nt ops S H0 ms l e H K = wpS P nt ops S H0 ms l e' H' K := by rw [h, h']
@[simp] theorem ws_nil (l : List Oper) (K : Env → AH → Prop) : wpS P nt ops S H0 [] l e H K = wpT P nt ops l e H K := by cases l <;> rfl
@[simp] theorem ws_end (ms : List Bool) (K : Env → AH → Prop) : wpS P nt ops S H0 ms [] e H K = K e H := by cases ms <;> rfl
@[simp] theorem ws_consN (b : Bool) (ms : List Bool) (d : Option Tmp) (op : Op) (t : TypeId) (p : String) (af : Array Edge) (rest : List Oper) (K : Env → AH → Prop) : wpS P nt ops S H0 (b :: ms) (⟨d, op, t, p, af, none⟩ :: rest) e H K =
      (dstOk nt d = true ∧
        if isFnCall op then callS (opCall P (oval e) op) fun f args => exX P H f args (holdQ (fun v H' => wpS P nt ops S H0 ms rest (putDst e d (some v)) H' K) ⟨⟩)
        else if b then resS (val1 H0 (ldS P S H0 (oval e) op)) (holdQ (fun v _ => wpS P nt ops S H0 ms rest (putDst e d v) H K) ⟨⟩)
        else resS (execN P (oval e) H op) (holdQ (fun v H' => keepO S op H0 H' ∧ wpS P nt ops S H0 ms rest (putDst e d v) H' K) ⟨⟩)) := by
  simp only [wpS, wantedA, wantS, holdQ]
  simp
@[simp] theorem ko_load {S : List Nat} (t : TypeId) (x : Operand) : keepO S (.load t x) H0 H = True := eq_true fun h => by simp [isW] at h
@[simp] theorem ko_move {S : List Nat} (x : Operand) : keepO S (.move x) H0 H = True := eq_true fun h => by simp [isW] at h
@[simp] theorem ko_binOp {S : List Nat} (o : BinOp) (t u : TypeId) (x y : Operand) : keepO S (.binOp o t x y u) H0 H = True := eq_true fun h => by simp [isW] at h
@[simp] theorem ko_unOp {S : List Nat} (o : UnOp) (t : TypeId) (x : Operand) : keepO S (.unOp o t x) H0 H = True := eq_true fun h => by simp [isW] at h
@[simp] theorem ko_convert {S : List Nat} (a b : TypeId) (x : Operand) : keepO S (.convert a b x) H0 H = True := eq_true fun h => by simp [isW] at h
@[simp] theorem ko_pick {S : List Nat} (x y z : Operand) : keepO S (.pick x y z) H0 H = True := eq_true fun h => by simp [isW] at h
@[simp] theorem ko_fieldAddr {S : List Nat} (t : TypeId) (x : Operand) (f : Nat) : keepO S (.fieldAddr t x f) H0 H = True := eq_true fun h => by simp [isW] at h
@[simp] theorem ko_field {S : List Nat} (t : TypeId) (x : Operand) (f : Nat) : keepO S (.field t x f) H0 H = True := eq_true fun h => by simp [isW] at h
@[simp] theorem ko_indexAddr {S : List Nat} (t : TypeId) (x i : Operand) : keepO S (.indexAddr t x i) H0 H = True := eq_true fun h => by simp [isW] at h
@[simp] theorem ko_index {S : List Nat} (t : TypeId) (x i : Operand) : keepO S (.index t x i) H0 H = True := eq_true fun h => by simp [isW] at h
@[simp] theorem ko_extract {S : List Nat} (x : Operand) (i : Nat) : keepO S (.extract x i) H0 H = True := eq_true fun h => by simp [isW] at h
@[simp] theorem ko_assign {S : List Nat} (x : Operand) : keepO S (.assign x) H0 H = True := eq_true fun h => by simp [isW] at h
@[simp] theorem ko_build {S : List Nat} (t : TypeId) (ps : Array (Nat × Operand)) : keepO S (.build t ps) H0 H = True := eq_true fun h => by simp [isW] at h
@[simp] theorem ko_makeFunc {S : List Nat} (f : Fn) (a b : Array Operand) : keepO S (.makeFunc f a b) H0 H = True := eq_true fun h => by simp [isW] at h
@[simp] theorem ko_store {S : List Nat} (t : TypeId) (x y : Operand) : keepO S (.store t x y) H0 H = KeepS S H0 H := propext ⟨fun h => h rfl, fun h _ => h⟩
@[simp] theorem ko_alloc {S : List Nat} (t : TypeId) : keepO S (.alloc t) H0 H = KeepS S H0 H := propext ⟨fun h => h rfl, fun h _ => h⟩
@[simp] theorem ko_buildSlice {S : List Nat} (t : TypeId) (n : Nat) (ps : Array (Nat × Operand)) : keepO S (.buildSlice t n ps) H0 H = KeepS S H0 H := propext ⟨fun h => h rfl, fun h _ => h⟩
@[simp] theorem ko_call {S : List Nat} (c : Go.Call) : keepO S (.call c) H0 H = (isW (.call c) = true → KeepS S H0 H) := rfl
end
end Go.Proofs.Ytbimapbcpmeooaa.AX

/- A plain reading of runs: stepping through a statement whose order is open, whose loads stand beside calls, and beside stores to other rows. -/
namespace Go.Proofs.Ytbimapbcpmeooaa.AX
open Go Go.RowKit
theorem KeepS.weak {S : List Nat} {H H' : AH} (h : KeepS [] H H') : KeepS S H H' := ⟨h.1, fun j _ hl => h.2 j (by simp) hl⟩
section
variable {P : Program} {nt : Nat} {ops : Array Oper} {e : Env} {H H0 : AH} {S : List Nat}
/-- First operations that leave all old rows as they were, then some that leave all old rows but S. A mark 1 is a load beside the first ones, a mark 2 one beside all of them. -/
def wpZ (P : Program) (nt : Nat) (ops : Array Oper) (S : List Nat) (H0 : AH) (ms1 : List Bool) : List Nat → List Oper → Env → AH → (Env → AH → Prop) → Prop
  | [], l, e, H, K => wpS P nt ops S H0 ms1 l e H K
  | _ :: _, [], e, H, K => K e H
  | b :: ms, o :: rest, e, H, K =>
    wantS (wantedA ops e o)
      (dstOk nt o.dst = true ∧
        if isFnCall o.op then callS (opCall P (oval e) o.op) fun f args => exX P H f args fun v H' => wpZ P nt ops S H0 ms1 ms rest (putDst e o.dst (some v)) H' K
        else if b = 0 then resS (execN P (oval e) H o.op) fun v H' => keepO [] o.op H0 H' ∧ wpZ P nt ops S H0 ms1 ms rest (putDst e o.dst v) H' K
        else resS (val1 H0 (ldS P (if b = 1 then [] else S) H0 (oval e) o.op)) fun v _ => wpZ P nt ops S H0 ms1 ms rest (putDst e o.dst v) H K)
      (wpZ P nt ops S H0 ms1 ms rest (putDst e o.dst none) H K)
/-- What is known of a record of such a run. -/
def ZRec (P : Program) (ops : Array Oper) (S : List Nat) (H0 : AH) (ms : List Nat) (ms1 : List Bool) (i : Nat) (o : Oper) (r : Rec) : Prop :=
  (i < ms.length → KeepS [] H0 r.H ∧ KeepS [] H0 r.H') ∧ (i < ms.length + ms1.length → KeepS S H0 r.H ∧ KeepS S H0 r.H') ∧
  (ms[i]? = some 1 → wantedA ops r.e o = some true → ∀ H1, KeepS [] H0 H1 → execN P (oval r.e) H1 o.op = some (r.v, H1)) ∧
  ((∃ m, ms[i]? = some (m + 2)) ∨ (ms.length ≤ i ∧ ms1[i - ms.length]? = some true) → wantedA ops r.e o = some true → ∀ H1, KeepS S H0 H1 → execN P (oval r.e) H1 o.op = some (r.v, H1))
theorem wpZ_trace {ms1 : List Bool} : ∀ {ms : List Nat} {l : List Oper} {e : Env} {H : AH} {K : Env → AH → Prop}, (∀ (i m : Nat) (o : Oper), ms[i]? = some (m + 1) → l[i]? = some o → isR o.op = true) → (∀ (i : Nat) (o : Oper), ms1[i]? = some true → l[ms.length + i]? = some o → isR o.op = true) → KeepS [] H0 H → wpZ P nt ops S H0 ms1 ms l e H K →
    ∃ tr e' H', Trace P nt ops l e H tr e' H' ∧ (∀ (i : Nat) (o : Oper) (r : Rec), l[i]? = some o → tr[i]? = some r → ZRec P ops S H0 ms ms1 i o r) ∧ K e' H'
  | [], l, e, H, K, hq, hq1, hE, h => by
    obtain ⟨tr, e', H', h1, h2, h3⟩ := wpS_trace (fun i o hi ho => hq1 i o hi (by simpa using ho)) hE.weak (show wpS P nt ops S H0 ms1 l e H K from h)
    refine ⟨tr, e', H', h1, fun i o r ho hr => ⟨fun hi => by simp at hi, fun hi => ?_, fun hm => by simp at hm, fun hm hw => ?_⟩, h3⟩
    · obtain ⟨g1, g2, -⟩ := h2 i o r (by simpa using hi) ho hr
      exact ⟨g1, g2⟩
    · rcases hm with ⟨m, hm⟩ | ⟨-, hm⟩
      · simp at hm
      · simp only [List.length_nil, Nat.sub_zero] at hm
        obtain ⟨-, -, g3⟩ := h2 i o r (List.getElem?_eq_some_iff.1 hm).1 ho hr
        exact g3 hm hw
  | b :: ms, [], e, H, K, _, _, hE, h => ⟨[], e, H, .nil _ _, by simp, h⟩
  | b :: ms, o :: rest, e, H, K, hq, hq1, hE, h => by
    have hq' : ∀ (i m : Nat) (o : Oper), ms[i]? = some (m + 1) → rest[i]? = some o → isR o.op = true := fun i m p hi hp => hq (i + 1) m p (by simpa using hi) (by simpa using hp)
    have hq1' : ∀ (i : Nat) (o : Oper), ms1[i]? = some true → rest[ms.length + i]? = some o → isR o.op = true := fun i p hi hp => hq1 i p hi (by rw [List.length_cons, show ms.length + 1 + i = (ms.length + i) + 1 by omega]; simpa using hp)
    simp only [wpZ] at h
    have step : ∀ {tr : List Rec} {r0 : Rec}, KeepS [] H0 r0.H → KeepS [] H0 r0.H' → (b = 1 → wantedA ops r0.e o = some true → ∀ H1, KeepS [] H0 H1 → execN P (oval r0.e) H1 o.op = some (r0.v, H1)) → ((∃ m, b = m + 2) → wantedA ops r0.e o = some true → ∀ H1, KeepS S H0 H1 → execN P (oval r0.e) H1 o.op = some (r0.v, H1)) →
        (∀ (i : Nat) (o : Oper) (r : Rec), rest[i]? = some o → tr[i]? = some r → ZRec P ops S H0 ms ms1 i o r) →
        ∀ (i : Nat) (o' : Oper) (r : Rec), (o :: rest)[i]? = some o' → (r0 :: tr)[i]? = some r → ZRec P ops S H0 (b :: ms) ms1 i o' r := by
      intro tr r0 k1 k2 k3 k4 h2 i o' r ho hr
      cases i with
      | zero =>
        simp at ho hr; subst ho; subst hr
        refine ⟨fun _ => ⟨k1, k2⟩, fun _ => ⟨k1.weak, k2.weak⟩, fun hm => k3 (by simpa using hm), fun hm => ?_⟩
        rcases hm with ⟨m, hm⟩ | ⟨hm, -⟩
        · exact k4 ⟨m, by simpa using hm⟩
        · simp at hm
      | succ i =>
        obtain ⟨g1, g2, g3, g4⟩ := h2 i o' r (by simpa using ho) (by simpa using hr)
        refine ⟨fun hi => g1 (by simpa using hi), fun hi => g2 (by simp at hi; omega), fun hm => g3 (by simpa using hm), fun hm => g4 ?_⟩
        rcases hm with ⟨m, hm⟩ | ⟨hm, hm2⟩
        · exact .inl ⟨m, by simpa using hm⟩
        · refine .inr ⟨by simpa using hm, ?_⟩
          rw [List.length_cons, show i + 1 - (ms.length + 1) = i - ms.length by omega] at hm2
          exact hm2
    cases hw : wantedA ops e o with
    | none => rw [hw] at h; exact h.elim
    | some c =>
      rw [hw] at h
      cases c with
      | false =>
        obtain ⟨tr, e', H', h1, h2, h3⟩ := wpZ_trace hq' hq1' hE (h.2 rfl)
        exact ⟨_, e', H', .skip hw h1, step hE hE (fun _ h => by rw [hw] at h; cases h) (fun _ h => by rw [hw] at h; cases h) h2, h3⟩
      | true =>
        obtain ⟨hd, h⟩ := h.1 rfl
        split at h
        · rename_i hfn
          cases hc : opCall P (oval e) o.op with
          | none => rw [hc] at h; exact h.elim
          | some x =>
            obtain ⟨f, args⟩ := x
            rw [hc] at h
            obtain ⟨v, H1, hAC, hE1, h⟩ := h
            obtain ⟨tr, e', H', h1, h2, h3⟩ := wpZ_trace hq' hq1' (hE.ext hE1) h
            have hno : ∀ m, b ≠ m + 1 := fun m hb => by
              have := opCall_isW hc
              have := isR_notW (hq 0 m o (by simp [hb]) (by simp))
              simp_all
            exact ⟨_, e', H', .call hw hc hd hAC h1, step hE (hE.ext hE1) (fun hb => absurd hb (hno 0)) (fun ⟨m, hb⟩ => absurd hb (hno (m + 1))) h2, h3⟩
        · rename_i hnf
          split at h
          · rename_i hb
            cases hx : execN P (oval e) H o.op with
            | none => rw [hx] at h; exact h.elim
            | some x =>
              obtain ⟨v, H1⟩ := x
              rw [hx] at h
              have hE1 : KeepS [] H0 H1 := by
                cases hW : isW o.op with
                | false => rw [execN_same hW hx]; exact hE
                | true => exact h.1 hW
              have h : wpZ P nt ops S H0 ms1 ms rest (putDst e o.dst v) H1 K := h.2
              obtain ⟨tr, e', H', h1, h2, h3⟩ := wpZ_trace hq' hq1' hE1 h
              exact ⟨_, e', H', .op hw hx hd h1, step hE hE1 (fun h => by omega) (fun ⟨m, h⟩ => by omega) h2, h3⟩
          · rename_i hb
            cases hx : ldS P (if b = 1 then [] else S) H0 (oval e) o.op with
            | none => rw [hx] at h; exact h.elim
            | some v =>
              rw [hx] at h
              have hxS : b ≠ 1 → ∀ H1, KeepS S H0 H1 → execN P (oval e) H1 o.op = some (some v, H1) := fun h1 H1 hK => by
                rw [if_neg h1] at hx; exact ldS_exec hK hx
              have hx1 : b = 1 → ∀ H1, KeepS [] H0 H1 → execN P (oval e) H1 o.op = some (some v, H1) := fun h1 H1 hK => by
                rw [if_pos h1] at hx; exact ldS_exec hK hx
              have hxx : execN P (oval e) H o.op = some (some v, H) := by
                by_cases h1 : b = 1
                · exact hx1 h1 H hE
                · exact hxS h1 H hE.weak
              have h : wpZ P nt ops S H0 ms1 ms rest (putDst e o.dst (some v)) H K := h
              obtain ⟨tr, e', H', h1, h2, h3⟩ := wpZ_trace hq' hq1' hE h
              exact ⟨_, e', H', .op hw hxx hd h1, step hE hE (fun hb _ => hx1 hb) (fun ⟨m, hb⟩ _ => hxS (by omega)) h2, h3⟩
/-- A load's mark: 1 or more. -/
def zMark (ms : List Nat) (ms1 : List Bool) (i : Nat) : Nat := if i < ms.length then (ms[i]?).getD 0 else if (ms1[i - ms.length]?).getD false then 2 else 0
def markZ (ms : List Nat) (ms1 : List Bool) (ops : Array Oper) : Bool :=
  ordOK ops && (let mk := masks ops.toList []; ops.toList.zipIdx.all fun x => !isR x.1.op || ops.toList.zipIdx.all fun y => !isW y.1.op || anc mk x.2 y.2 || anc mk y.2 x.2 ||
    (decide (zMark ms ms1 x.2 = 1) && decide (x.2 < ms.length) && decide (y.2 < ms.length)) || (decide (2 ≤ zMark ms ms1 x.2) && decide (x.2 < ms.length + ms1.length) && decide (y.2 < ms.length + ms1.length))) &&
    ops.toList.zipIdx.all fun z => decide (zMark ms ms1 z.2 = 0) || isR z.1.op
theorem L_regZ (hm : P.follows .mixedOrders = true) (S : List Nat) (ms : List Nat) (ms1 : List Bool) {id : Nat} {l : List Oper} {cs : List Code} {Q : Ex → Env → AH → Prop} (ks : List Nat) (hs : markZ ms ms1 l.toArray = true)
    (h : ∀ K : Env → AH → Prop, (∀ e' H', AWL P nt cs e' H' Q → K e' H') → wpZ P nt l.toArray S H ms1 ms l e H fun e H => K (ekeep ks e) H) : AWL P nt (.region id l.toArray true :: cs) e H Q := by
  simp only [markZ, Bool.and_eq_true, List.all_eq_true, Bool.or_eq_true, Bool.not_eq_true', decide_eq_true_eq] at hs
  have mem : ∀ (i : Nat) (o : Oper), l.toArray[i]? = some o → (o, i) ∈ l.toArray.toList.zipIdx := by
    intro i o ho
    rw [List.mk_mem_zipIdx_iff_getElem?, Array.getElem?_toList]; exact ho
  obtain ⟨tr, e', H', hT, hX, hk⟩ := wpZ_trace (fun i m o hi ho => by
    have hil : i < ms.length := (List.getElem?_eq_some_iff.1 hi).1
    rcases hs.2 _ (mem i o (by simpa using ho)) with h1 | h1
    · simp [zMark, hil] at h1
      rw [List.getElem?_eq_getElem hil] at hi
      simp at hi
      omega
    · exact h1) (fun i o hi ho => by
    rcases hs.2 _ (mem (ms.length + i) o (by simpa using ho)) with h1 | h1
    · simp [zMark, hi] at h1
    · exact h1) (.refl [] H) (h (fun e' H' => AWL P nt cs e' H' Q) fun e' H' h => h)
  refine AWL_cons (AW_draw hm ks hT ⟨hs.1.1, ?_⟩ hk)
  intro i j o p r s ho hp hri hsj hR hW hw h1 h2
  have hXi := hX i o r (by simpa using ho) hri
  have hXj := hX j p s (by simpa using hp) hsj
  rcases hs.1.2 _ (mem i o ho) with h3 | h3
  · rw [hR] at h3; cases h3
  rcases h3 _ (mem j p hp) with (((h4 | h4) | h4) | ⟨⟨h4, h5⟩, h6⟩) | ⟨⟨h4, h5⟩, h6⟩
  · rw [hW] at h4; cases h4
  · rw [h1] at h4; cases h4
  · rw [h2] at h4; cases h4
  · have h5 : i < ms.length := h5
    have h6 : j < ms.length := h6
    have hm1 : ms[i]? = some 1 := by
      simp [zMark, h5] at h4
      rw [List.getElem?_eq_getElem h5, h4]
    obtain ⟨g1, g2⟩ := hXj.1 h6
    have g := hXi.2.2.1 hm1 hw
    exact ⟨g _ g1, g _ g2⟩
  · have h5 : i < ms.length + ms1.length := h5
    have h6 : j < ms.length + ms1.length := h6
    obtain ⟨g1, g2⟩ := hXj.2.1 h6
    have g := hXi.2.2.2 (by
      by_cases hi : i < ms.length
      · refine .inl ⟨ms[i] - 2, ?_⟩
        simp [zMark, hi] at h4
        rw [List.getElem?_eq_getElem hi]
        congr 1; omega
      · refine .inr ⟨by omega, ?_⟩
        simp only [zMark, if_neg hi] at h4
        split at h4
        · rename_i h7
          cases hc : ms1[i - ms.length]? with
          | none => rw [hc] at h7; simp at h7
          | some c => rw [hc] at h7; simp at h7; rw [h7]
        · omega) hw
    exact ⟨g _ g1, g _ g2⟩
@[congr] theorem c_wpZ {ms1 : List Bool} {ms : List Nat} {l : List Oper} {e e' : Env} {H H' : AH} {K : Env → AH → Prop} (h : e = e') (h' : H = H') : wpZ P nt ops S H0 ms1 ms l e H K = wpZ P nt ops S H0 ms1 ms l e' H' K := by rw [h, h']
@[simp] theorem wz_nil (ms1 : List Bool) (l : List Oper) (K : Env → AH → Prop) : wpZ P nt ops S H0 ms1 [] l e H K = wpS P nt ops S H0 ms1 l e H K := by cases l <;> rfl
@[simp] theorem wz_consN (ms1 : List Bool) (b : Nat) (ms : List Nat) (d : Option Tmp) (op : Op) (t : TypeId) (p : String) (af : Array Edge) (rest : List Oper) (K : Env → AH → Prop) : wpZ P nt ops S H0 ms1 (b :: ms) (⟨d, op, t, p, af, none⟩ :: rest) e H K =
      (dstOk nt d = true ∧
        if isFnCall op then callS (opCall P (oval e) op) fun f args => exX P H f args (holdQ (fun v H' => wpZ P nt ops S H0 ms1 ms rest (putDst e d (some v)) H' K) ⟨⟩)
        else if b = 0 then resS (execN P (oval e) H op) (holdQ (fun v H' => keepO [] op H0 H' ∧ wpZ P nt ops S H0 ms1 ms rest (putDst e d v) H' K) ⟨⟩)
        else resS (val1 H0 (ldS P (if b = 1 then [] else S) H0 (oval e) op)) (holdQ (fun v _ => wpZ P nt ops S H0 ms1 ms rest (putDst e d v) H K) ⟨⟩)) := by
  simp only [wpZ, wantedA, wantS, holdQ]
  simp
end
end Go.Proofs.Ytbimapbcpmeooaa.AX

/- A plain reading of runs: a statement whose order is open, two of whose operations write in no order: both orders are read. -/
namespace Go.Proofs.Ytbimapbcpmeooaa.AX
open Go Go.RowKit

/-- A list of operations as they may come. -/
def ValidL (ops : Array Oper) : Array Bool → List Nat → Prop
  | listed, [] => Region.ready .any ops listed = []
  | listed, k :: L => k ∈ Region.ready .any ops listed ∧ ValidL ops (listed.setIfInBounds k true) L
section
variable {F : Fence} {n : Nat} {P : Program} {ops : Array Oper} {Q : Exit → Act → World → Prop}
theorem ready_unl {listed : Array Bool} {k : Nat} (h : k ∈ Region.ready .any ops listed) (hs : listed.size = ops.size) : unl ops.size (listed.setIfInBounds k true) < unl ops.size listed := by
  rw [mem_ready] at h
  obtain ⟨h1, o, ho, -⟩ := h
  have hlt : k < ops.size := (Array.getElem?_eq_some_iff.1 ho).1
  have hltl : k < listed.size := by omega
  have hD : listed.getD k false = false := by simp [hltl] at h1 ⊢; exact h1
  have hset := getD_set (listed := listed) hltl
  unfold unl
  refine filter_lt (i := k) (fun j hj => ?_) (by simpa using hlt) (by simp [hD]) (by simp [hset])
  simp only [hset, Bool.not_eq_true', Bool.or_eq_false_iff] at hj ⊢
  exact hj.1
theorem go_valid : ∀ (fuel t : Nat) (listed : Array Bool), listed.size = ops.size → unl ops.size listed ≤ fuel → ValidL ops listed (Region.linearise.go .any ops fuel t listed []) := by
  intro fuel
  induction fuel with
  | zero =>
    intro t listed hs hu
    simp only [Region.linearise.go, List.reverse_nil, ValidL]
    rw [List.eq_nil_iff_forall_not_mem]
    intro k hk
    have := ready_unl hk hs
    omega
  | succ fuel ih =>
    intro t listed hs hu
    simp only [Region.linearise.go]
    change ValidL ops listed (match (Region.ready .any ops listed)[t % (Region.ready .any ops listed).length]? with
      | some i => Region.linearise.go .any ops fuel (t / (Region.ready .any ops listed).length) (listed.setIfInBounds i true) [i]
      | none => [].reverse)
    cases hi : (Region.ready .any ops listed)[t % (Region.ready .any ops listed).length]? with
    | none =>
      simp only [List.reverse_nil, ValidL]
      cases hr : Region.ready .any ops listed with
      | nil => rfl
      | cons x xs =>
        rw [hr] at hi
        have hlt : t % (x :: xs).length < (x :: xs).length := Nat.mod_lt _ (by simp)
        simp at hi
        simp at hlt
        omega
    | some i =>
      simp only []
      rw [linearise_go_acc, List.reverse_singleton, List.singleton_append]
      have hm := List.mem_of_getElem? hi
      refine ⟨hm, ih _ _ (by simpa using hs) ?_⟩
      have := ready_unl hm hs
      omega
theorem any_list : ∀ (L : List Nat) (fuel : Nat) (listed : Array Bool) (a : Act) (w : World), wpAnyIn F n P .any ops Q fuel listed a w → ValidL ops listed L → wpOpsIn F n P ops Q L a w
  | [], 0, listed, a, w, h, _ => h.2
  | [], fuel + 1, listed, a, w, h, hv => h.1 hv
  | k :: L, 0, listed, a, w, h, hv => by have := hv.1; rw [h.1] at this; cases this
  | k :: L, fuel + 1, listed, a, w, h, hv => by
    rw [wpOpsIn_cons]
    exact wpOpIn_mono (fun a w h' => any_list L fuel _ a w h' hv.2) (h.2 k hv.1)
/-- The same operation, but for what it waits for. -/
def sameO (o o' : Oper) : Prop := o'.dst = o.dst ∧ o'.op = o.op ∧ o'.type = o.type ∧ o'.pos = o.pos ∧ o.guard = none ∧ o'.guard = none
theorem sameO_wp {o o' : Oper} (h : sameO o o') {a : Act} {w : World} {K : Act → World → Prop} (hh : o'.wpIn F n P a w K Q) : o.wpIn F n P a w K Q := by
  obtain ⟨d, op, t, p, af, g⟩ := o
  obtain ⟨d', op', t', p', af', g'⟩ := o'
  obtain ⟨rfl, rfl, rfl, rfl, h5, h6⟩ := h
  exact hh
theorem ops_map {ops2 : Array Oper} {f : Nat → Nat} (hf : ∀ (k : Nat) (o : Oper), ops[k]? = some o → ∃ o', ops2[f k]? = some o' ∧ sameO o o') : ∀ (L : List Nat) (a : Act) (w : World), (∀ k ∈ L, k < ops.size) → wpOpsIn F n P ops2 Q (L.map f) a w → wpOpsIn F n P ops Q L a w
  | [], a, w, _, h => h
  | k :: L, a, w, hL, h => by
    obtain ⟨o, hk⟩ : ∃ o, ops[k]? = some o := ⟨_, Array.getElem?_eq_getElem (hL k (by simp))⟩
    obtain ⟨o', h1, h2⟩ := hf k _ hk
    have ih := fun a w => ops_map hf L a w fun x hx => hL x (by simp [hx])
    rw [List.map_cons, wpOpsIn_cons] at h
    rw [wpOpsIn_cons]
    unfold wpOpIn at h ⊢
    simp only [h1, hk] at h ⊢
    have e1 : Region.wanted o (yielded ops a.tmps) = true := by simp [Region.wanted, h2.2.2.2.2.1]
    have e2 : Region.wanted o' (yielded ops2 a.tmps) = true := by simp [Region.wanted, h2.2.2.2.2.2]
    rw [e1, if_pos rfl]
    rw [e2, if_pos rfl] at h
    exact Oper.wpIn_mono ih (sameO_wp h2 h)
theorem valid_lt : ∀ {L : List Nat} {listed : Array Bool}, ValidL ops listed L → ∀ k ∈ L, k < ops.size
  | [], _, _, k, hk => by cases hk
  | x :: L, listed, h, k, hk => by
    rcases List.mem_cons.1 hk with rfl | hk
    · have := h.1
      rw [mem_ready] at this
      obtain ⟨-, o, ho, -⟩ := this
      exact (Array.getElem?_eq_some_iff.1 ho).1
    · exact valid_lt h.2 k hk
/-- y waits for x, the operations stand in another order. -/
structure Moved (ops ops2 : Array Oper) (f g : Nat → Nat) (x y : Nat) : Prop where
  size : ops2.size = ops.size
  fg : ∀ k, k < ops.size → f k < ops.size ∧ g (f k) = k
  gf : ∀ k, k < ops.size → g k < ops.size ∧ f (g k) = k
  op : ∀ (k : Nat) (o : Oper), ops[k]? = some o → ∃ o', ops2[f k]? = some o' ∧ sameO o o' ∧ (∀ e' ∈ o'.after, Region.binds .any e' = true → (k = y ∧ e'.on = f x) ∨ ∃ e ∈ o.after, Region.binds .any e = true ∧ e'.on = f e.on) ∧
    (∀ e ∈ o.after, Region.binds .any e = true → e.on < ops.size ∧ ∃ e' ∈ o'.after, Region.binds .any e' = true ∧ e'.on = f e.on)
theorem Moved.ready {ops2 : Array Oper} {f g : Nat → Nat} {x y : Nat} (M : Moved ops ops2 f g x y) {listed listed2 : Array Bool} (hs : listed.size = ops.size) (hs2 : listed2.size = ops.size) (hl : ∀ k, k < ops.size → listed2.getD (f k) false = listed.getD k false) {k : Nat}
    (hk : k ∈ Region.ready .any ops listed) (hx : k = y → listed.getD x false = true) (hxl : x < ops.size) : f k ∈ Region.ready .any ops2 listed2 := by
  rw [mem_ready] at hk ⊢
  obtain ⟨h1, o, ho, h2⟩ := hk
  have hlt : k < ops.size := (Array.getElem?_eq_some_iff.1 ho).1
  obtain ⟨o', ho', -, h3, -⟩ := M.op k o ho
  have hf := M.fg k hlt
  refine ⟨?_, o', ho', fun e' he' hb => ?_⟩
  · have h4 := hl k hlt
    have h5 : k < listed.size := by omega
    have h6 : f k < listed2.size := by omega
    simp [h5, h6] at h1 h4 ⊢
    rw [h4]; exact h1
  · rcases h3 e' he' hb with ⟨rfl, e1⟩ | ⟨e, he, hb2, e1⟩
    · rw [e1, hl x hxl]; exact hx rfl
    · have h4 := h2 e he hb2
      have hon : e.on < ops.size := by
        rcases Nat.lt_or_ge e.on ops.size with h | h
        · exact h
        · have : listed.getD e.on false = false := by simp [show ¬ e.on < listed.size by omega]
          rw [this] at h4; cases h4
      rw [e1, hl _ hon]; exact h4
theorem Moved.back {ops2 : Array Oper} {f g : Nat → Nat} {x y : Nat} (M : Moved ops ops2 f g x y) {listed listed2 : Array Bool} (hs : listed.size = ops.size) (hs2 : listed2.size = ops.size) (hl : ∀ k, k < ops.size → listed2.getD (f k) false = listed.getD k false) {p : Nat}
    (hp : p ∈ Region.ready .any ops2 listed2) : g p ∈ Region.ready .any ops listed := by
  rw [mem_ready] at hp ⊢
  obtain ⟨h1, o', ho', h2⟩ := hp
  have hlt : p < ops.size := by rw [← M.size]; exact (Array.getElem?_eq_some_iff.1 ho').1
  have hg := M.gf p hlt
  have hk : ops[g p]? = some ops[g p] := Array.getElem?_eq_getElem hg.1
  obtain ⟨o2, ho2, -, -, h3⟩ := M.op _ _ hk
  rw [hg.2, ho'] at ho2
  cases ho2
  refine ⟨?_, _, hk, fun e he hb => ?_⟩
  · have h4 := hl (g p) hg.1
    rw [hg.2] at h4
    have h5 : g p < listed.size := by omega
    have h6 : p < listed2.size := by omega
    simp [h5, h6] at h1 h4 ⊢
    rw [← h4]; exact h1
  · obtain ⟨h4, e', he', hb', e1⟩ := h3 e he hb
    have := h2 e' he' hb'
    rw [e1, hl _ h4] at this
    exact this
theorem set_rel {f g : Nat → Nat} {m : Nat} (hfg : ∀ k, k < m → f k < m ∧ g (f k) = k) {listed listed2 : Array Bool} (hs : listed.size = m) (hs2 : listed2.size = m) (hl : ∀ k, k < m → listed2.getD (f k) false = listed.getD k false) {k : Nat} (hk : k < m) :
    ∀ j, j < m → (listed2.setIfInBounds (f k) true).getD (f j) false = (listed.setIfInBounds k true).getD j false := by
  intro j hj
  rw [getD_set (listed := listed2) (by have := (hfg k hk).1; omega), getD_set (listed := listed) (by omega), hl j hj]
  congr 1
  rw [Bool.eq_iff_iff]
  simp only [beq_iff_eq]
  exact ⟨fun e => by rw [← (hfg j hj).2, ← (hfg k hk).2, e], fun e => by rw [e]⟩
/-- x stands ahead of y. -/
def Ahead (x y : Nat) (L : List Nat) : Prop := ∀ L1 L2, L = L1 ++ y :: L2 → x ∈ L1
theorem ahead_or {x y : Nat} (hne : x ≠ y) : ∀ L : List Nat, Ahead x y L ∨ Ahead y x L
  | [] => .inl fun L1 L2 h => by simp at h
  | k :: L => by
    by_cases h1 : k = x
    · subst h1
      refine .inl fun L1 L2 h => ?_
      cases L1 with
      | nil => simp at h; exact absurd h.1 hne
      | cons z L1 => simp at h; simp [h.1]
    · by_cases h2 : k = y
      · subst h2
        refine .inr fun L1 L2 h => ?_
        cases L1 with
        | nil => simp at h; exact absurd h.1.symm hne
        | cons z L1 => simp at h; simp [h.1]
      · rcases ahead_or hne L with h | h
        · refine .inl fun L1 L2 e => ?_
          cases L1 with
          | nil => simp at e; exact absurd e.1 h2
          | cons z L1 => simp at e; exact List.mem_cons_of_mem _ (h L1 L2 e.2)
        · refine .inr fun L1 L2 e => ?_
          cases L1 with
          | nil => simp at e; exact absurd e.1 h1
          | cons z L1 => simp at e; exact List.mem_cons_of_mem _ (h L1 L2 e.2)
theorem Moved.valid {ops2 : Array Oper} {f g : Nat → Nat} {x y : Nat} (M : Moved ops ops2 f g x y) (hxl : x < ops.size) : ∀ (L : List Nat) (listed listed2 : Array Bool), listed.size = ops.size → listed2.size = ops.size → (∀ k, k < ops.size → listed2.getD (f k) false = listed.getD k false) →
    (listed.getD x false = true ∨ Ahead x y L) → ValidL ops listed L → ValidL ops2 listed2 (L.map f)
  | [], listed, listed2, hs, hs2, hl, _, h => by
    show Region.ready .any ops2 listed2 = []
    rw [List.eq_nil_iff_forall_not_mem]
    intro p hp
    have := M.back hs hs2 hl hp
    rw [show Region.ready .any ops listed = [] from h] at this
    cases this
  | k :: L, listed, listed2, hs, hs2, hl, ha, h => by
    have hk := h.1
    have hlt : k < ops.size := valid_lt (L := k :: L) h k (by simp)
    refine ⟨M.ready hs hs2 hl hk (fun e => ?_) hxl, M.valid hxl L _ _ (by simpa using hs) (by simpa using hs2) (set_rel M.fg hs hs2 hl hlt) ?_ h.2⟩
    · rcases ha with ha | ha
      · exact ha
      · have := ha [] L (by simp [e]); cases this
    · rcases ha with ha | ha
      · left
        rw [getD_set (by omega), ha]; rfl
      · by_cases e : k = x
        · left
          rw [getD_set (by omega), e]; simp
        · right
          intro L1 L2 e2
          have := ha (k :: L1) L2 (by simp [e2])
          rcases List.mem_cons.1 this with h1 | h1
          · exact absurd h1.symm e
          · exact h1
end

/-! ### How the text is changed -/
/-- An operation that waits for one more. -/
def waitO (x : Nat) : Oper → Oper
  | ⟨d, op, t, p, af, gd⟩ => ⟨d, op, t, p, af.push ⟨x, .data⟩, gd⟩
/-- An operation among others: whom it waits for stands elsewhere. -/
def mapO (f : Nat → Nat) : Oper → Oper
  | ⟨d, op, t, p, af, gd⟩ => ⟨d, op, t, p, af.map fun e => ⟨f e.on, e.ground⟩, gd⟩
def addE (x y : Nat) (l : List Oper) : List Oper := l.mapIdx fun k o => if k = y then waitO x o else o
def permL (ord : List Nat) (l : List Oper) : List Oper := ord.map fun k => mapO (fun j => ord.idxOf j) ((l[k]?).getD default)
def quietO (l : List Oper) : Bool := l.all fun o => o.guard.isNone && o.after.all fun e => decide (e.on < l.length)
def permOK (ord : List Nat) (m : Nat) : Bool := Nat.beq ord.length m && (List.range m).all (fun k => decide (ord.idxOf k < m) && (ord[ord.idxOf k]? == some k)) && (List.range m).all fun p => match ord[p]? with | some k => decide (k < m) && Nat.beq (ord.idxOf k) p | none => false
@[simp] theorem waitO_mk (x : Nat) (d : Option Tmp) (op : Op) (t : TypeId) (p : String) (af : Array Edge) (gd : Option (Nat × Bool)) : waitO x ⟨d, op, t, p, af, gd⟩ = ⟨d, op, t, p, af.push ⟨x, .data⟩, gd⟩ := rfl
@[simp] theorem mapO_mk (f : Nat → Nat) (d : Option Tmp) (op : Op) (t : TypeId) (p : String) (af : Array Edge) (gd : Option (Nat × Bool)) : mapO f ⟨d, op, t, p, af, gd⟩ = ⟨d, op, t, p, af.map fun e => ⟨f e.on, e.ground⟩, gd⟩ := rfl
theorem waitO_after (x : Nat) (o : Oper) : (waitO x o).after = o.after.push ⟨x, .data⟩ := rfl
theorem moved_add {l : List Oper} {x y : Nat} (hq : quietO l = true) : Moved l.toArray (addE x y l).toArray id id x y where
  size := by simp [addE]
  fg k hk := ⟨hk, rfl⟩
  gf k hk := ⟨hk, rfl⟩
  op k o ho := by
    have hk : l[k]? = some o := by simpa using ho
    have hqo := List.all_eq_true.1 hq o (List.mem_of_getElem? hk)
    simp only [Bool.and_eq_true, Option.isNone_iff_eq_none] at hqo
    have h2 : ∀ e ∈ o.after, e.on < l.length := fun e he => by
      have := Array.all_eq_true_iff_forall_mem.1 hqo.2 e he
      simpa using this
    refine ⟨if k = y then waitO x o else o, by simp [addE, hk], ?_, ?_, ?_⟩
    · split
      · exact ⟨rfl, rfl, rfl, rfl, hqo.1, hqo.1⟩
      · exact ⟨rfl, rfl, rfl, rfl, hqo.1, hqo.1⟩
    · intro e' he' hb
      split at he'
      · rename_i hky
        rw [waitO_after, Array.mem_push] at he'
        rcases he' with he' | rfl
        · exact .inr ⟨e', he', hb, rfl⟩
        · exact .inl ⟨hky, rfl⟩
      · exact .inr ⟨e', he', hb, rfl⟩
    · intro e he hb
      refine ⟨by simpa using h2 e he, e, ?_, hb, rfl⟩
      split
      · rw [waitO_after, Array.mem_push]; exact .inl he
      · exact he
theorem moved_perm {l : List Oper} {ord : List Nat} {x y : Nat} (hq : quietO l = true) (hp : permOK ord l.length = true) : Moved l.toArray (permL ord (addE x y l)).toArray (fun k => ord.idxOf k) (fun p => (ord[p]?).getD 0) x y := by
  simp only [permOK, Bool.and_eq_true, List.all_eq_true, List.mem_range] at hp
  obtain ⟨⟨hp1, hp2⟩, hp3⟩ := hp
  have hlen : ord.length = l.length := Nat.eq_of_beq_eq_true hp1
  have hA : ∀ k, k < l.length → ord.idxOf k < l.length ∧ ord[ord.idxOf k]? = some k := fun k hk => by
    have := hp2 k hk
    simp only [decide_eq_true_eq, beq_iff_eq] at this
    exact this
  have hB : ∀ p, p < l.length → ∃ k, ord[p]? = some k ∧ k < l.length ∧ ord.idxOf k = p := fun p hpl => by
    have := hp3 p hpl
    split at this
    · rename_i k hk
      simp only [Bool.and_eq_true, decide_eq_true_eq] at this
      exact ⟨k, hk, this.1, Nat.eq_of_beq_eq_true this.2⟩
    · cases this
  refine ⟨by simp [permL, hlen], fun k hk => ?_, fun p hpl => ?_, fun k o ho => ?_⟩
  · have hk : k < l.length := by simpa using hk
    obtain ⟨h1, h2⟩ := hA k hk
    exact ⟨by simpa using h1, by simp [h2]⟩
  · have hpl : p < l.length := by simpa using hpl
    obtain ⟨k, h1, h2, h3⟩ := hB p hpl
    simp [h1, h2, h3]
  · obtain ⟨o', h1, h2, h3, h4⟩ := (moved_add (x := x) (y := y) hq).op k o ho
    have hk : k < l.length := by
      have := (Array.getElem?_eq_some_iff.1 ho).1
      simpa using this
    obtain ⟨g1, g2⟩ := hA k hk
    have h1' : (addE x y l)[k]? = some o' := by simpa using h1
    obtain ⟨d, op, t, p, af, gd⟩ := o'
    refine ⟨mapO (fun j => ord.idxOf j) ⟨d, op, t, p, af, gd⟩, ?_, ?_, ?_, ?_⟩
    · simp [permL, g2, h1']
    · obtain ⟨q1, q2, q3, q4, q5, q6⟩ := h2
      exact ⟨q1, q2, q3, q4, q5, q6⟩
    · intro e' he' hb
      simp only [mapO, Array.mem_map] at he'
      obtain ⟨e, he, rfl⟩ := he'
      rcases h3 e he hb with ⟨q1, q2⟩ | ⟨e2, q1, q2, q3⟩
      · exact .inl ⟨q1, by simp only [id] at q2; simp [q2]⟩
      · exact .inr ⟨e2, q1, q2, by simp only [id] at q3; simp [q3]⟩
    · intro e he hb
      obtain ⟨q1, e', q2, q3, q4⟩ := h4 e he hb
      refine ⟨q1, ⟨ord.idxOf e'.on, e'.ground⟩, ?_, q3, ?_⟩
      · simp only [mapO, Array.mem_map]
        exact ⟨e', q2, rfl⟩
      · simp only [id] at q4; simp [q4]

/-- A run whose order is drawn. -/
def AWD (P : Program) (nt : Nat) (ops : Array Oper) (e : Env) (H : AH) (Q : Ex → Env → AH → Prop) : Prop :=
  ∀ (ro : Option Nat) (base : Nat) (w0 : World) (σ : Inj) (w : World) (a : Act), RoOk ro σ → Sim base w0 σ H w → ERel σ nt e a → wpAnyIn (fc ro) 0 P .any ops (AWPost base w0 nt σ a.defers Q) ops.size (Array.replicate ops.size false) a w
section
variable {P : Program} {nt : Nat} {e e' : Env} {H H' : AH} {ops : Array Oper} {tr : List Rec}
theorem AWD_draw {Q : Ex → Env → AH → Prop} (ks : List Nat) (hT : Trace P nt ops ops.toList e H tr e' H') (hok : DrawOk P ops tr) (hq : Q .normal (ekeep ks e') H') : AWD P nt ops e H Q := fun ro base w0 σ w a _ hS hr => by
  have hI : Inv P nt ops tr H' e base w0 σ a.defers (Array.replicate ops.size false) a w := by
    have hz : ∀ j, (Array.replicate ops.size false).getD j false = false := fun j => by
      simp [Array.getD_eq_getD_getElem?, Array.getElem?_replicate]
      split <;> rfl
    refine ⟨rfl, by simp, fun i o _ h => ?_, 0, σ, by omega, fun j p _ _ => ?_, .refl σ, by rw [hT.first]; exact hS, ?_⟩
    · simp only [hz] at h; cases h
    · rw [hz]; simp
    · rw [foldD_none _ _ _ _ _ (fun j => hz _)]; exact hr
  have hmain := draw_main (ro := ro) hT hok ops.size _ a _ (by unfold unl; exact Nat.le_trans (List.length_filter_le _ _) (by simp)) hI
  have hQ : ∀ ex a1 w, AWPost base w0 nt σ a.defers (fun x e2 H2 => x = .normal ∧ e2 = e' ∧ H2 = H') ex a1 w → AWPost base w0 nt σ a.defers Q ex a1 w := by
    rintro ex a w ⟨x, σ', e2, H2, rfl, h2, h3, h4, hmk, rfl, rfl, rfl⟩
    exact ⟨.normal, σ', _, _, rfl, h2, h3, h4.keep ks, hmk, hq⟩
  have hmono : ∀ (fuel : Nat) (listed : Array Bool) (a1 : Act) (w : World), wpAnyIn (fc ro) 0 P .any ops (AWPost base w0 nt σ a.defers fun x e2 H2 => x = .normal ∧ e2 = e' ∧ H2 = H') fuel listed a1 w → wpAnyIn (fc ro) 0 P .any ops (AWPost base w0 nt σ a.defers Q) fuel listed a1 w := by
    intro fuel
    induction fuel with
    | zero => intro listed a w h; exact ⟨h.1, hQ _ _ _ h.2⟩
    | succ fuel ih =>
      intro listed a w h
      refine ⟨fun hr => hQ _ _ _ (h.1 hr), fun i hi => ?_⟩
      have := h.2 i hi
      unfold wpOpIn at this ⊢
      split
      · rename_i hn; rw [hn] at this; exact ih _ _ _ this
      · rename_i o hn
        rw [hn] at this
        simp only [] at this
        split
        · rename_i hw
          rw [if_pos hw] at this
          exact operIn_mono (ih _) hQ this
        · rename_i hw; rw [if_neg hw] at this; exact ⟨this.1, ih _ _ _ this.2⟩
  exact hmono _ _ _ _ hmain
/-- Both orders of two operations. -/
theorem AW_two (hm : P.follows .mixedOrders = true) {id : Nat} {l : List Oper} {x y : Nat} {ord : List Nat} {Q : Ex → Env → AH → Prop} (hne : x ≠ y) (hx : x < l.length) (hy : y < l.length) (hq : quietO l = true) (hp : permOK ord l.length = true)
    (hA : AWD P nt (addE x y l).toArray e H Q) (hB : AWD P nt (permL ord (addE y x l)).toArray e H Q) : AW P nt (.region id l.toArray true) e H Q := fun ro base w0 σ w a ho S hr => by
  refine wpIn_region_draw fun t => ?_
  simp only [Region.schedule, hm, Bool.true_or, if_true]
  have S' : Sim base w0 σ H { w with drawn := w.drawn + 1 } := S.drew
  have hv := go_valid (ops := l.toArray) l.toArray.size t (Array.replicate l.toArray.size false) (by simp) (by unfold unl; exact Nat.le_trans (List.length_filter_le _ _) (by simp))
  unfold Region.linearise
  generalize Region.linearise.go .any l.toArray l.toArray.size t (Array.replicate l.toArray.size false) [] = L at hv ⊢
  have hLt := valid_lt hv
  have rep : ∀ (m k : Nat), (Array.replicate m false).getD k false = false := fun m k => by
    simp [Array.getD_eq_getD_getElem?, Array.getElem?_replicate]
    split <;> rfl
  rcases ahead_or hne L with h | h
  · have M := moved_add (x := x) (y := y) hq
    have hv2 := M.valid (by simpa using hx) L _ (Array.replicate (addE x y l).toArray.size false) (by simp) (by rw [Array.size_replicate, M.size]) (fun k _ => by rw [rep, rep]) (.inr h) hv
    refine ops_map (f := fun k => k) (fun k o ho => ?_) L a _ hLt (any_list _ _ _ _ _ (hA ro base w0 σ _ a ho S' hr) hv2)
    obtain ⟨o', h1, h2, -⟩ := M.op k o ho
    exact ⟨o', h1, h2⟩
  · have M := moved_perm (x := y) (y := x) hq hp
    have hv2 := M.valid (by simpa using hy) L _ (Array.replicate (permL ord (addE y x l)).toArray.size false) (by simp) (by rw [Array.size_replicate, M.size]) (fun k _ => by rw [rep, rep]) (.inr h) hv
    refine ops_map (f := fun k => ord.idxOf k) (fun k o ho => ?_) L a _ hLt (any_list _ _ _ _ _ (hB ro base w0 σ _ a ho S' hr) hv2)
    obtain ⟨o', h1, h2, -⟩ := M.op k o ho
    exact ⟨o', h1, h2⟩
theorem AWD_U (ms : List Bool) {l : List Oper} {Q : Ex → Env → AH → Prop} (ks : List Nat) (hs : markS ms l.toArray = true) (h : wpU P nt l.toArray H ms l e H fun e H => Q .normal (ekeep ks e) H) : AWD P nt l.toArray e H Q := by
  simp only [markS, Bool.and_eq_true, List.all_eq_true, Bool.or_eq_true, Bool.not_eq_true', decide_eq_true_eq] at hs
  have mem : ∀ (i : Nat) (o : Oper), l.toArray[i]? = some o → (o, i) ∈ l.toArray.toList.zipIdx := by
    intro i o ho
    rw [List.mk_mem_zipIdx_iff_getElem?, Array.getElem?_toList]; exact ho
  obtain ⟨tr, e', H', hT, hX, hk⟩ := wpU_trace (fun i o hi ho => by
    rcases hs.2 _ (mem i o (by simpa using ho)) with h1 | h1
    · simp [hi] at h1
    · exact h1) (.refl H) h
  refine AWD_draw ks hT ⟨hs.1.1, ?_⟩ hk
  intro i j o p r s ho hp hri hsj hR hW hw h1 h2
  rcases hs.1.2 _ (mem i o ho) with h3 | h3
  · rw [hR] at h3; cases h3
  rcases h3 _ (mem j p hp) with ((h4 | h4) | h4) | ⟨⟨h4, h6⟩, h5⟩
  · rw [hW] at h4; cases h4
  · rw [h1] at h4; cases h4
  · rw [h2] at h4; cases h4
  have h4' : ms[i]? = some true := by
    cases hc : ms[i]? with
    | none => rw [hc] at h4; simp at h4
    | some c => rw [hc] at h4; simp at h4; rw [h4]
  obtain ⟨-, -, g⟩ := hX i o r h6 (by simpa using ho) hri
  obtain ⟨e1, e2, -⟩ := hX j p s h5 (by simpa using hp) hsj
  have g := g h4' hw
  exact ⟨execN_ext hR e1 g, execN_ext hR e2 g⟩
/-- The rule: x ahead of y in the order of the text, and y ahead of x in another order. lA and lB are the two texts. -/
theorem L_regU2 (hm : P.follows .mixedOrders = true) (x y : Nat) (ord : List Nat) (msA msB : List Bool) {id : Nat} {l lA lB : List Oper} {cs : List Code} {Q : Ex → Env → AH → Prop} (ks : List Nat)
    (hc : (!Nat.beq x y && Nat.blt x l.length && Nat.blt y l.length && quietO l && permOK ord l.length) = true) (eA : addE x y l = lA) (eB : permL ord (addE y x l) = lB) (hsA : markS msA lA.toArray = true) (hsB : markS msB lB.toArray = true)
    (h : ∀ K : Env → AH → Prop, (∀ e' H', AWL P nt cs e' H' Q → K e' H') → wpU P nt lA.toArray H msA lA e H (fun e H => K (ekeep ks e) H) ∧ wpU P nt lB.toArray H msB lB e H fun e H => K (ekeep ks e) H) : AWL P nt (.region id l.toArray true :: cs) e H Q := by
  subst eA; subst eB
  simp only [Bool.and_eq_true, Bool.not_eq_true'] at hc
  obtain ⟨⟨⟨⟨h1, h2⟩, h3⟩, h4⟩, h5⟩ := hc
  obtain ⟨k1, k2⟩ := h (fun e' H' => AWL P nt cs e' H' Q) fun e' H' h => h
  exact AWL_cons (AW_two hm (fun e => by subst e; simp at h1) (by simpa [Nat.blt_eq] using h2) (by simpa [Nat.blt_eq] using h3) h4 h5 (AWD_U msA ks hsA k1) (AWD_U msB ks hsB k2))
/-- A run by any order that may come. -/
def AWR (P : Program) (nt : Nat) (ops : Array Oper) (e : Env) (H : AH) (Q : Ex → Env → AH → Prop) : Prop :=
  ∀ (ro : Option Nat) (base : Nat) (w0 : World) (σ : Inj) (w : World) (a : Act), RoOk ro σ → Sim base w0 σ H w → ERel σ nt e a → ∀ L, ValidL ops (Array.replicate ops.size false) L → wpOpsIn (fc ro) 0 P ops (AWPost base w0 nt σ a.defers Q) L a w
theorem AWR_of {Q : Ex → Env → AH → Prop} (h : AWD P nt ops e H Q) : AWR P nt ops e H Q := fun ro base w0 σ w a ho S hr L hv => any_list _ _ _ _ _ (h ro base w0 σ w a ho S hr) hv
theorem AWR_two {l : List Oper} {x y : Nat} {ord : List Nat} {Q : Ex → Env → AH → Prop} (hne : x ≠ y) (hx : x < l.length) (hy : y < l.length) (hq : quietO l = true) (hp : permOK ord l.length = true)
    (hA : AWR P nt (addE x y l).toArray e H Q) (hB : AWR P nt (permL ord (addE y x l)).toArray e H Q) : AWR P nt l.toArray e H Q := fun ro base w0 σ w a ho S hr L hv => by
  have hLt := valid_lt hv
  have rep : ∀ (m k : Nat), (Array.replicate m false).getD k false = false := fun m k => by
    simp [Array.getD_eq_getD_getElem?, Array.getElem?_replicate]
    split <;> rfl
  rcases ahead_or hne L with h | h
  · have M := moved_add (x := x) (y := y) hq
    have hv2 := M.valid (by simpa using hx) L _ (Array.replicate (addE x y l).toArray.size false) (by simp) (by rw [Array.size_replicate, M.size]) (fun k _ => by rw [rep, rep]) (.inr h) hv
    refine ops_map (f := fun k => k) (fun k o ho => ?_) L a _ hLt (hA ro base w0 σ w a ho S hr _ hv2)
    obtain ⟨o', h1, h2, -⟩ := M.op k o ho
    exact ⟨o', h1, h2⟩
  · have M := moved_perm (x := y) (y := x) hq hp
    have hv2 := M.valid (by simpa using hy) L _ (Array.replicate (permL ord (addE y x l)).toArray.size false) (by simp) (by rw [Array.size_replicate, M.size]) (fun k _ => by rw [rep, rep]) (.inr h) hv
    refine ops_map (f := fun k => ord.idxOf k) (fun k o ho => ?_) L a _ hLt (hB ro base w0 σ w a ho S hr _ hv2)
    obtain ⟨o', h1, h2, -⟩ := M.op k o ho
    exact ⟨o', h1, h2⟩
theorem AW_R (hm : P.follows .mixedOrders = true) {id : Nat} {l : List Oper} {Q : Ex → Env → AH → Prop} (h : AWR P nt l.toArray e H Q) : AW P nt (.region id l.toArray true) e H Q := fun ro base w0 σ w a ho S hr => by
  refine wpIn_region_draw fun t => ?_
  simp only [Region.schedule, hm, Bool.true_or, if_true]
  have S' : Sim base w0 σ H { w with drawn := w.drawn + 1 } := S.drew
  have hv := go_valid (ops := l.toArray) l.toArray.size t (Array.replicate l.toArray.size false) (by simp) (by unfold unl; exact Nat.le_trans (List.length_filter_le _ _) (by simp))
  unfold Region.linearise
  exact h ro base w0 σ _ a ho S' hr _ hv
def pairOK (x y : Nat) (ord : List Nat) (l : List Oper) : Bool := !Nat.beq x y && Nat.blt x l.length && Nat.blt y l.length && quietO l && permOK ord l.length
theorem AWR_pair {l : List Oper} {x y : Nat} {ord : List Nat} {Q : Ex → Env → AH → Prop} (hc : pairOK x y ord l = true) (hA : AWR P nt (addE x y l).toArray e H Q) (hB : AWR P nt (permL ord (addE y x l)).toArray e H Q) : AWR P nt l.toArray e H Q := by
  simp only [pairOK, Bool.and_eq_true, Bool.not_eq_true'] at hc
  obtain ⟨⟨⟨⟨h1, h2⟩, h3⟩, h4⟩, h5⟩ := hc
  exact AWR_two (fun e => by subst e; simp at h1) (by simpa [Nat.blt_eq] using h2) (by simpa [Nat.blt_eq] using h3) h4 h5 hA hB
/-- Three orders: y ahead of x; x, x2 ahead of y (y2 is y); y between them. -/
theorem L_regU3 (hm : P.follows .mixedOrders = true) (x y x2 y2 : Nat) (ordB ordD : List Nat) (msB msC msD : List Bool) {id : Nat} {l lA lB lC lD : List Oper} {cs : List Code} {Q : Ex → Env → AH → Prop} (ks : List Nat)
    (hc : pairOK x y ordB l = true) (eA : addE x y l = lA) (hc2 : pairOK x2 y2 ordD lA = true) (eB : permL ordB (addE y x l) = lB) (eC : addE x2 y2 lA = lC) (eD : permL ordD (addE y2 x2 lA) = lD) (hsB : markS msB lB.toArray = true) (hsC : markS msC lC.toArray = true) (hsD : markS msD lD.toArray = true)
    (h : ∀ K : Env → AH → Prop, (∀ e' H', AWL P nt cs e' H' Q → K e' H') → wpU P nt lB.toArray H msB lB e H (fun e H => K (ekeep ks e) H) ∧ wpU P nt lC.toArray H msC lC e H (fun e H => K (ekeep ks e) H) ∧ wpU P nt lD.toArray H msD lD e H fun e H => K (ekeep ks e) H) : AWL P nt (.region id l.toArray true :: cs) e H Q := by
  subst eA; subst eB; subst eC; subst eD
  obtain ⟨k1, k2, k3⟩ := h (fun e' H' => AWL P nt cs e' H' Q) fun e' H' h => h
  exact AWL_cons (AW_R hm (AWR_pair hc (AWR_pair hc2 (AWR_of (AWD_U msC ks hsC k2)) (AWR_of (AWD_U msD ks hsD k3))) (AWR_of (AWD_U msB ks hsB k1))))

/-! ### Texts in another order; operations in order behind marked ones -/
theorem addE_none {x : Nat} {l : List Oper} : addE x l.length l = l := by
  unfold addE
  apply List.ext_getElem?
  intro k
  rw [List.getElem?_mapIdx]
  cases h : l[k]? with
  | none => rfl
  | some o =>
    have hk : k < l.length := (List.getElem?_eq_some_iff.1 h).1
    simp; omega
theorem AWR_perm (ord : List Nat) {l : List Oper} {Q : Ex → Env → AH → Prop} (hc : (quietO l && permOK ord l.length) = true) (hA : AWR P nt (permL ord l).toArray e H Q) : AWR P nt l.toArray e H Q := fun ro base w0 σ w a ho S hr L hv => by
  simp only [Bool.and_eq_true] at hc
  obtain ⟨hq, hp⟩ := hc
  have hLt := valid_lt hv
  have rep : ∀ (m k : Nat), (Array.replicate m false).getD k false = false := fun m k => by
    simp [Array.getD_eq_getD_getElem?, Array.getElem?_replicate]
    split <;> rfl
  cases hl : l with
  | nil =>
    subst hl
    have := hA ro base w0 σ w a ho S hr L
    simp only [permOK, Bool.and_eq_true] at hp
    have he : ord = [] := by
      have := Nat.eq_of_beq_eq_true hp.1.1
      exact List.eq_nil_of_length_eq_zero this
    subst he
    exact this hv
  | cons o0 l0 =>
    rw [← hl]
    have hpos : 0 < l.toArray.size := by rw [hl]; simp
    have M := moved_perm (x := 0) (y := l.length) hq hp
    rw [addE_none] at M
    have hv2 := M.valid hpos L _ (Array.replicate (permL ord l).toArray.size false) (by simp) (by rw [Array.size_replicate, M.size]) (fun k _ => by rw [rep, rep]) (.inr fun L1 L2 h2 => by
      have := hLt l.length (by rw [h2]; simp)
      simp at this) hv
    refine ops_map (f := fun k => ord.idxOf k) (fun k o ho => ?_) L a _ hLt (hA ro base w0 σ w a ho S hr _ hv2)
    obtain ⟨o', h1, h2, -⟩ := M.op k o ho
    exact ⟨o', h1, h2⟩
def wpUM (P : Program) (nt : Nat) (ops : Array Oper) (H0 : AH) : List Bool → List Oper → Env → AH → (Env → AH → Prop) → Prop
  | [], l, e, H, K => wpO P nt ops l e H K
  | _ :: _, [], _, _, _ => False
  | b :: ms, o :: rest, e, H, K =>
    wantS (wantedA ops e o)
      (dstOk nt o.dst = true ∧
        if isFnCall o.op then callS (opCall P (oval e) o.op) fun f args => exX P H f args fun v H' => wpUM P nt ops H0 ms rest (putDst e o.dst (some v)) H' K
        else if b then resS (execN P (oval e) H0 o.op) fun v _ => wpUM P nt ops H0 ms rest (putDst e o.dst v) H K
        else resS (execN P (oval e) H o.op) fun v H' => extO o.op H0 H' ∧ wpUM P nt ops H0 ms rest (putDst e o.dst v) H' K)
      (wpUM P nt ops H0 ms rest (putDst e o.dst none) H K)
theorem wpUM_trace {H0 : AH} : ∀ {ms : List Bool} {l : List Oper} {e : Env} {H : AH} {K : Env → AH → Prop}, (∀ (i : Nat) (o : Oper), ms[i]? = some true → l[i]? = some o → isR o.op = true) → Ext H0 H → wpUM P nt ops H0 ms l e H K →
    ms.length ≤ l.length ∧ ∃ tr e' H', Trace P nt ops (l.take ms.length) e H tr e' H' ∧ (∀ (i : Nat) (o : Oper) (r : Rec), (l.take ms.length)[i]? = some o → tr[i]? = some r → Ext H0 r.H ∧ Ext H0 r.H' ∧ (ms[i]? = some true → wantedA ops r.e o = some true → execN P (oval r.e) H0 o.op = some (r.v, H0))) ∧ wpO P nt ops (l.drop ms.length) e' H' K
  | [], l, e, H, K, _, _, h => ⟨Nat.zero_le _, [], e, H, .nil _ _, by simp, by simpa [wpUM] using h⟩
  | b :: ms, [], e, H, K, _, _, h => by simp [wpUM] at h
  | b :: ms, o :: rest, e, H, K, hq, hE, h => by
    have hq' : ∀ (i : Nat) (o : Oper), ms[i]? = some true → rest[i]? = some o → isR o.op = true := fun i p hi hp => hq (i + 1) p (by simpa using hi) (by simpa using hp)
    simp only [wpUM] at h
    have step : ∀ {tr : List Rec} {r0 : Rec}, (Ext H0 r0.H ∧ Ext H0 r0.H' ∧ (b = true → wantedA ops r0.e o = some true → execN P (oval r0.e) H0 o.op = some (r0.v, H0))) →
        (∀ (i : Nat) (o : Oper) (r : Rec), (rest.take ms.length)[i]? = some o → tr[i]? = some r → Ext H0 r.H ∧ Ext H0 r.H' ∧ (ms[i]? = some true → wantedA ops r.e o = some true → execN P (oval r.e) H0 o.op = some (r.v, H0))) →
        ∀ (i : Nat) (o' : Oper) (r : Rec), ((o :: rest).take (b :: ms).length)[i]? = some o' → (r0 :: tr)[i]? = some r → Ext H0 r.H ∧ Ext H0 r.H' ∧ ((b :: ms)[i]? = some true → wantedA ops r.e o' = some true → execN P (oval r.e) H0 o'.op = some (r.v, H0)) := by
      intro tr r0 h1 h2 i o' r ho hr
      cases i with
      | zero => simp at ho hr; subst ho; subst hr; simpa using h1
      | succ i => simpa using h2 i o' r (by simpa using ho) (by simpa using hr)
    cases hw : wantedA ops e o with
    | none => rw [hw] at h; exact h.elim
    | some c =>
      rw [hw] at h
      cases c with
      | false =>
        obtain ⟨hm, tr, e', H', h1, h2, h3⟩ := wpUM_trace hq' hE (h.2 rfl)
        exact ⟨by simp; omega, _, e', H', .skip hw h1, step ⟨hE, hE, fun _ h => by rw [hw] at h; cases h⟩ h2, h3⟩
      | true =>
        obtain ⟨hd, h⟩ := h.1 rfl
        split at h
        · rename_i hfn
          cases hc : opCall P (oval e) o.op with
          | none => rw [hc] at h; exact h.elim
          | some x =>
            obtain ⟨f, args⟩ := x
            rw [hc] at h
            obtain ⟨v, H1, hAC, hE1, h⟩ := h
            obtain ⟨hm, tr, e', H', h1, h2, h3⟩ := wpUM_trace hq' (hE.trans hE1) h
            refine ⟨by simp; omega, _, e', H', .call hw hc hd hAC h1, step ⟨hE, hE.trans hE1, fun hb => ?_⟩ h2, h3⟩
            have := opCall_isW hc
            have := isR_notW (hq 0 o (by simp [hb]) (by simp))
            simp_all
        · rename_i hnf
          split at h
          · rename_i hb
            have hR := hq 0 o (by simp [hb]) (by simp)
            cases hx : execN P (oval e) H0 o.op with
            | none => rw [hx] at h; exact h.elim
            | some x =>
              obtain ⟨v, H1⟩ := x
              have hH := execN_same (isR_notW hR) hx
              rw [hx] at h
              have hx' : execN P (oval e) H0 o.op = some (v, H0) := by rw [hx, hH]
              have h : wpUM P nt ops H0 ms rest (putDst e o.dst v) H K := h
              obtain ⟨hm, tr, e', H', h1, h2, h3⟩ := wpUM_trace hq' hE h
              exact ⟨by simp; omega, _, e', H', .op hw (execN_ext hR hE hx') hd h1, step ⟨hE, hE, fun _ _ => hx'⟩ h2, h3⟩
          · rename_i hb
            cases hx : execN P (oval e) H o.op with
            | none => rw [hx] at h; exact h.elim
            | some x =>
              obtain ⟨v, H1⟩ := x
              rw [hx] at h
              have hE1 : Ext H0 H1 := by
                cases hW : isW o.op with
                | false => rw [execN_same hW hx]; exact hE
                | true => exact h.1 hW
              have h : wpUM P nt ops H0 ms rest (putDst e o.dst v) H1 K := h.2
              obtain ⟨hm, tr, e', H', h1, h2, h3⟩ := wpUM_trace hq' hE1 h
              exact ⟨by simp; omega, _, e', H', .op hw hx hd h1, step ⟨hE, hE1, fun h => absurd h hb⟩ h2, h3⟩
/-- Reads that are in no order with a writing are marked, and both are among the first ones; the others are in order, behind all before them. -/
def markSM (ms : List Bool) (ops : Array Oper) : Bool :=
  ordOK ops && decide (ms.length < ops.size) && (let mk := masks ops.toList []; (ops.toList.zipIdx.all fun x => !isR x.1.op || !decide (x.2 < ms.length) || ops.toList.zipIdx.all fun y => !isW y.1.op || !decide (y.2 < ms.length) || anc mk x.2 y.2 || anc mk y.2 x.2 || (ms[x.2]?).getD false) &&
    (List.range ops.size).all fun k => decide (k < ms.length) || (List.range k).all fun i => anc mk k i) && ops.toList.zipIdx.all fun z => !((ms[z.2]?).getD false) || isR z.1.op
theorem AWD_UM (ms : List Bool) {l : List Oper} {Q : Ex → Env → AH → Prop} (ks : List Nat) (hs : markSM ms l.toArray = true) (h : wpUM P nt l.toArray H ms l e H fun e H => Q .normal (ekeep ks e) H) : AWD P nt l.toArray e H Q := by
  simp only [markSM, Bool.and_eq_true, List.all_eq_true, Bool.or_eq_true, Bool.not_eq_true', decide_eq_true_eq, List.mem_range, decide_eq_false_iff_not] at hs
  obtain ⟨⟨⟨hord, hlt⟩, hrd, htl⟩, hmk⟩ := hs
  have mem : ∀ (i : Nat) (o : Oper), l[i]? = some o → (o, i) ∈ l.toArray.toList.zipIdx := by
    intro i o ho
    rw [List.mk_mem_zipIdx_iff_getElem?]; exact ho
  have hlt : ms.length < l.length := by simpa using hlt
  obtain ⟨oL, tl, hl⟩ : ∃ oL tl, l.drop ms.length = oL :: tl := ⟨l[ms.length], l.drop (ms.length + 1), List.drop_eq_getElem_cons hlt⟩
  obtain ⟨-, tr, e', H', hT, hX, hk⟩ := wpUM_trace (fun i o hi ho => by
    rcases hmk _ (mem i o (by simpa using ho)) with h1 | h1
    · simp [hi] at h1
    · exact h1) (.refl H) h
  rw [hl] at hk
  have htk : (l.take ms.length).length = ms.length := by simp; omega
  have hti : ∀ (i : Nat) (o : Oper), (l.take ms.length)[i]? = some o → i < ms.length ∧ l[i]? = some o := fun i o ho => by
    have h1 : i < ms.length := by have := (List.getElem?_eq_some_iff.1 ho).1; omega
    exact ⟨h1, by rw [List.getElem?_take_of_lt h1] at ho; exact ho⟩
  have hread : readsL P l.toArray (l.take ms.length) tr := by
    intro i j o p r s ho hp hri hsj hR hW hw h1 h2
    obtain ⟨i1, i2⟩ := hti i o ho
    obtain ⟨j1, j2⟩ := hti j p hp
    rcases hrd _ (mem i o i2) with h3 | h3
    · rcases h3 with h3 | h3
      · rw [hR] at h3; cases h3
      · exact absurd i1 h3
    rcases h3 _ (mem j p j2) with (((h4 | h4) | h4) | h4) | h4
    · rw [hW] at h4; cases h4
    · exact absurd j1 h4
    · rw [h1] at h4; cases h4
    · rw [h2] at h4; cases h4
    have h4' : ms[i]? = some true := by
      cases hc : ms[i]? with
      | none => rw [hc] at h4; simp at h4
      | some c => rw [hc] at h4; simp at h4; rw [h4]
    obtain ⟨-, -, g⟩ := hX i o r ho hri
    obtain ⟨e1, e2, -⟩ := hX j p s hp hsj
    have g := g h4' hw
    exact ⟨execN_ext hR e1 g, execN_ext hR e2 g⟩
  have hanc : ∀ k, (l.take ms.length).length ≤ k → k < l.toArray.size → ∀ i, i < k → anc (masks l.toArray.toList []) k i = true := by
    intro k h1 h2 i hi
    rw [htk] at h1
    rcases htl k h2 with h3 | h3
    · omega
    · exact h3 i hi
  intro ro base w0 σ w a ho hS hr
  have hz : ∀ j, (Array.replicate l.toArray.size false).getD j false = false := fun j => by
    simp [Array.getD_eq_getD_getElem?, Array.getElem?_replicate]
    split <;> rfl
  have hI : InvL P nt l.toArray (l.take ms.length) tr H' e base w0 σ a.defers (Array.replicate l.toArray.size false) a w := by
    refine ⟨rfl, hz _, by simp, fun i o _ h => ?_, 0, σ, by omega, fun j p _ _ => ?_, .refl σ, by rw [hT.first]; exact hS, ?_⟩
    · simp only [hz] at h; cases h
    · rw [hz]; simp
    · rw [foldD_none _ _ _ _ _ (fun j => hz _)]; exact hr
  have hmain := draw_mainK (oL := oL) (tl := tl) (by rw [← hl]; simp) hT hord hread hanc (wpO_sound hk) (ro := ro) ho l.toArray.size _ a _ (by unfold unl; exact Nat.le_trans (List.length_filter_le _ _) (by simp)) hI
  have hQ : ∀ ex a1 w, AWPost base w0 nt σ a.defers (fun x e2 H2 => x = .normal ∧ Q .normal (ekeep ks e2) H2) ex a1 w → AWPost base w0 nt σ a.defers Q ex a1 w := by
    rintro ex a w ⟨x, σ', e2, H2, rfl, h2, h3, h4, hmk, rfl, h5⟩
    exact ⟨.normal, σ', _, _, rfl, h2, h3, h4.keep ks, hmk, h5⟩
  have hmono : ∀ (fuel : Nat) (listed : Array Bool) (a1 : Act) (w : World), wpAnyIn (fc ro) 0 P .any l.toArray (AWPost base w0 nt σ a.defers fun x e2 H2 => x = .normal ∧ Q .normal (ekeep ks e2) H2) fuel listed a1 w → wpAnyIn (fc ro) 0 P .any l.toArray (AWPost base w0 nt σ a.defers Q) fuel listed a1 w := by
    intro fuel
    induction fuel with
    | zero => intro listed a w h; exact ⟨h.1, hQ _ _ _ h.2⟩
    | succ fuel ih =>
      intro listed a w h
      refine ⟨fun hr => hQ _ _ _ (h.1 hr), fun i hi => ?_⟩
      have := h.2 i hi
      unfold wpOpIn at this ⊢
      split
      · rename_i hn; rw [hn] at this; exact ih _ _ _ this
      · rename_i o hn
        rw [hn] at this
        simp only [] at this
        split
        · rename_i hw
          rw [if_pos hw] at this
          exact operIn_mono (ih _) hQ this
        · rename_i hw; rw [if_neg hw] at this; exact ⟨this.1, ih _ _ _ this.2⟩
  exact hmono _ _ _ _ hmain
@[congr] theorem c_wpUM {H0 : AH} {ms : List Bool} {l : List Oper} {e e' : Env} {H H' : AH} {K : Env → AH → Prop} (h : e = e') (h' : H = H') : wpUM P nt ops H0 ms l e H K = wpUM P nt ops H0 ms l e' H' K := by rw [h, h']
@[simp] theorem wum_nil {H0 : AH} (l : List Oper) (K : Env → AH → Prop) : wpUM P nt ops H0 [] l e H K = wpO P nt ops l e H K := by cases l <;> rfl
@[simp] theorem wum_consN {H0 : AH} (b : Bool) (ms : List Bool) (d : Option Tmp) (op : Op) (t : TypeId) (p : String) (af : Array Edge) (rest : List Oper) (K : Env → AH → Prop) : wpUM P nt ops H0 (b :: ms) (⟨d, op, t, p, af, none⟩ :: rest) e H K =
      (dstOk nt d = true ∧
        if isFnCall op then callS (opCall P (oval e) op) fun f args => exX P H f args (holdQ (fun v H' => wpUM P nt ops H0 ms rest (putDst e d (some v)) H' K) ⟨⟩)
        else if b then resS (execN P (oval e) H0 op) (holdQ (fun v _ => wpUM P nt ops H0 ms rest (putDst e d v) H K) ⟨⟩)
        else resS (execN P (oval e) H op) (holdQ (fun v H' => extO op H0 H' ∧ wpUM P nt ops H0 ms rest (putDst e d v) H' K) ⟨⟩)) := by
  simp only [wpUM, wantedA, wantS, holdQ]
  simp
/-- The region that comes first: its order as it may come. Go on by AWR_perm, AWR_pair, AWR_U, AWR_UM. -/
theorem L_regR (hm : P.follows .mixedOrders = true) {id : Nat} {l : List Oper} {cs : List Code} {Q : Ex → Env → AH → Prop}
    (h : ∀ K : Ex → Env → AH → Prop, (∀ e' H', AWL P nt cs e' H' Q → K .normal e' H') → AWR P nt l.toArray e H K) : AWL P nt (.region id l.toArray true :: cs) e H Q :=
  AWL_cons (AW_R hm (h (More P nt cs Q) fun _ _ h => h))
theorem AWR_U (ks : List Nat) (ms : List Bool) {l l2 : List Oper} {Q : Ex → Env → AH → Prop} (e2 : l = l2) (hs : markS ms l2.toArray = true) (h : wpU P nt l2.toArray H ms l2 e H fun e H => Q .normal (ekeep ks e) H) : AWR P nt l.toArray e H Q := by
  subst e2; exact AWR_of (AWD_U ms ks hs h)
theorem AWR_UM (ks : List Nat) (ms : List Bool) {l l2 : List Oper} {Q : Ex → Env → AH → Prop} (e2 : l = l2) (hs : markSM ms l2.toArray = true) (h : wpUM P nt l2.toArray H ms l2 e H fun e H => Q .normal (ekeep ks e) H) : AWR P nt l.toArray e H Q := by
  subst e2; exact AWR_of (AWD_UM ms ks hs h)
end

/-! ### A copy of a temporary may be made at first -/
def tmpNe (d : Nat) : Operand → Bool
  | .tmp k => !Nat.beq k d
  | _ => true
def plainOp : Op → Bool
  | .defer _ => false
  | .select .. => false
  | _ => true
def freeOf (d t : Nat) (o : Oper) : Bool := plainOp o.op && o.op.operands.all (tmpNe d) && (match o.dst with | some k => !Nat.beq k d && !Nat.beq k t | none => true)
def edge0 (o : Oper) : Bool := o.after.any fun e => Nat.beq e.on 0 && Region.binds .any e
def pinOK : List Oper → Bool
  | ⟨some d, .move (.tmp t), _, _, af, none⟩ :: rest => af.isEmpty && !Nat.beq d t && rest.all fun o => o.guard.isNone && (edge0 o || freeOf d t o)
  | _ => false
/-- All from place m on wait for the first one. -/
def pinL (m : Nat) (l : List Oper) : List Oper := l.mapIdx fun k o => if k < m then o else waitO 0 o
section
variable {F : Fence} {n : Nat} {P : Program} {l : List Oper} {Q : Exit → Act → World → Prop}
theorem free_spec {d t : Nat} {o : Oper} (h : freeOf d t o = true) : (∀ c, o.op ≠ .defer c) ∧ (∀ cs b, o.op ≠ .select cs b) ∧ (∀ x ∈ o.op.operands, x ≠ .tmp d) ∧ o.dst ≠ some d ∧ o.dst ≠ some t := by
  simp only [freeOf, Bool.and_eq_true] at h
  obtain ⟨⟨h1, h2⟩, h3⟩ := h
  refine ⟨fun c e => (by rw [e] at h1; cases h1), fun cs b e => (by rw [e] at h1; cases h1), fun x hx e => ?_, fun e => ?_, fun e => ?_⟩
  · have := Array.all_eq_true_iff_forall_mem.1 h2 x hx
    rw [e] at this
    simp [tmpNe] at this
  · rw [e] at h3; simp at h3
  · rw [e] at h3; simp at h3
theorem uponIn_put {o : Oper} {d t : Nat} (h1 : o.dst ≠ some d) (h2 : o.dst ≠ some t) {a : Act} {v : Value} (hv : a.eval (.tmp t) = v) (hQ : ∀ c w, Q (.panic c) (a.put (some d) v) w → Q (.panic c) a w) {K : Act → World → Prop} {r : Result Next}
    (h : o.uponIn F n P (a.put (some d) v) K Q r) : o.uponIn F n P a (fun a' w' => K (a'.put (some d) (a'.eval (.tmp t))) w') Q r := by
  have hc : ∀ (b : Act) (u : Value), b.eval (.tmp t) = v → K ((b.put (some d) v).put o.dst u) = K ((b.put o.dst u).put (some d) ((b.put o.dst u).eval (.tmp t))) := fun b u hb => by
    rw [Act.eval_put (a := b) (dst := o.dst) (x := .tmp t) (fun k hk e => h2 (by cases e; exact hk)), hb]
    rw [Act.put_comm b (x := some d) (y := o.dst) v u (fun k hk e => h1 (by cases hk; exact e))]
  cases r with
  | halt x w' =>
    cases x <;> simp only [Oper.uponIn] at h ⊢
    exact hQ _ _ h
  | ok x w' =>
    cases x with
    | value u => simp only [Oper.uponIn] at h ⊢; rw [← hc a u hv]; exact h
    | skip => simp only [Oper.uponIn] at h ⊢; rw [← hc a _ hv]; exact h
    | defer q =>
      simp only [Oper.uponIn] at h ⊢
      rw [← hc { a with defers := q :: a.defers } _ hv, ← Act.put_defers]
      exact h
    | enter f args =>
      simp only [Oper.uponIn] at h ⊢
      refine ⟨h.1, CallsIn.mono h.2 fun e w2 he => ?_⟩
      cases e with
      | returned u => simp only at he ⊢; rw [← hc a u hv]; exact he
      | panicked c => exact hQ _ _ he
      | outgrown => exact he
    | row row args =>
      simp only [Oper.uponIn] at h ⊢
      exact ⟨h.1, RowsIn.mono h.2 fun u w2 he => by rw [← hc a u hv]; exact he⟩
    | round q f tmps asg body =>
      simp only [Oper.uponIn] at h ⊢
      refine ⟨h.1, RoundIn.mono h.2 fun e w2 he => ?_⟩
      cases e with
      | returned u => simp only at he ⊢; rw [← hc a u hv]; exact he
      | panicked c => exact hQ _ _ he
      | outgrown => exact he
    | _ => simp only [Oper.uponIn] at h
theorem run_pin {ops : Array Oper} {d t : Nat} {ty : TypeId} {ps : String} {af : Array Edge} (h0 : ops[0]? = some ⟨some d, .move (.tmp t), ty, ps, af, none⟩) {K : Act → World → Prop} {a : Act} {w : World} :
    wpOpIn F n P ops Q 0 K a w ↔ K (a.put (some d) (a.eval (.tmp t))) w := by
  have hnd : ∀ c, Op.move (.tmp t) ≠ .defer c := fun c e => by cases e
  unfold wpOpIn
  simp only [h0]
  have hw : Region.wanted ⟨some d, .move (.tmp t), ty, ps, af, none⟩ (yielded ops a.tmps) = true := rfl
  rw [if_pos hw]
  unfold Oper.wpIn
  rw [Oper.semAt_eq _ _ _ hnd]
  show (_ ∧ K _ w) ↔ _
  exact ⟨fun h => h.2, fun h => ⟨fun f hf => (by cases hf), h⟩⟩
theorem pin_swap {ops : Array Oper} {d t : Nat} {ty : TypeId} {ps : String} {af : Array Edge} (h0 : ops[0]? = some ⟨some d, .move (.tmp t), ty, ps, af, none⟩) {j : Nat} {o : Oper} (hj : ops[j]? = some o) (hg : o.guard = none) (hf : freeOf d t o = true)
    (hQ : ∀ c a a' w, Q (.panic c) a w → Q (.panic c) a' w) {K : Act → World → Prop} {a : Act} {w : World} (h : wpOpIn F n P ops Q 0 (wpOpIn F n P ops Q j K) a w) : wpOpIn F n P ops Q j (wpOpIn F n P ops Q 0 K) a w := by
  rw [run_pin h0] at h
  obtain ⟨q1, q2, q3, q4, q5⟩ := free_spec hf
  have hev : ∀ x ∈ o.op.operands, (a.put (some d) (a.eval (.tmp t))).eval x = a.eval x := fun x hx => Act.eval_put fun k hk e => q3 x hx (by cases hk; exact e)
  unfold wpOpIn at h ⊢
  simp only [hj] at h ⊢
  have hw : ∀ b : Act, Region.wanted o (yielded ops b.tmps) = true := fun b => by simp [Region.wanted, hg]
  rw [hw, if_pos rfl] at h
  rw [hw, if_pos rfl]
  unfold Oper.wpIn at h ⊢
  rw [about_congr o w hev, Oper.semAt_eq _ _ _ q1, execOp_congr o q2 hev] at h
  rw [Oper.semAt_eq _ _ _ q1]
  refine ⟨h.1, ?_⟩
  have := uponIn_put q4 q5 rfl (fun c w => hQ c _ _ w) h.2
  have e : (fun a' w' => K (a'.put (some d) (a'.eval (.tmp t))) w') = wpOpIn F n P ops Q 0 K := by
    funext a' w'
    exact propext (run_pin h0).symm
  rw [e] at this
  exact this
theorem pin_along {ops : Array Oper} {d t : Nat} {ty : TypeId} {ps : String} {af : Array Edge} (h0 : ops[0]? = some ⟨some d, .move (.tmp t), ty, ps, af, none⟩) (hQ : ∀ c a a' w, Q (.panic c) a w → Q (.panic c) a' w) (L2 : List Nat) :
    ∀ (L1 : List Nat), (∀ k ∈ L1, ∃ o, ops[k]? = some o ∧ o.guard = none ∧ freeOf d t o = true) → ∀ (a : Act) (w : World), wpOpsIn F n P ops Q (0 :: (L1 ++ L2)) a w → wpOpsIn F n P ops Q (L1 ++ 0 :: L2) a w
  | [], _, a, w, h => h
  | k :: L1, hL, a, w, h => by
    obtain ⟨o, g1, g2, g3⟩ := hL k (by simp)
    rw [List.cons_append, wpOpsIn_cons, show wpOpsIn F n P ops Q (k :: (L1 ++ L2)) = wpOpIn F n P ops Q k (wpOpsIn F n P ops Q (L1 ++ L2)) by funext a w; rw [wpOpsIn_cons]] at h
    rw [List.cons_append, wpOpsIn_cons]
    refine wpOpIn_mono (fun a w h' => ?_) (pin_swap h0 g1 g2 g3 hQ h)
    refine pin_along h0 hQ L2 L1 (fun x hx => hL x (by simp [hx])) a w ?_
    rw [wpOpsIn_cons]
    exact h'
end
section
variable {P : Program} {nt : Nat} {e e' : Env} {H H' : AH}
theorem beq0 {k : Nat} (h : k ≠ 0) : Nat.beq k 0 = false := by
  cases k with
  | zero => exact absurd rfl h
  | succ k => rfl
theorem getD_in {listed : Array Bool} {k m : Nat} (_hk : k < m) : (listed.setIfInBounds k true).size = listed.size := by simp
theorem AWR_pin (m : Nat) {l : List Oper} {Q : Ex → Env → AH → Prop} (hc : (pinOK l && quietO l && Nat.blt 0 m) = true) (hA : AWR P nt (pinL m l).toArray e H Q) : AWR P nt l.toArray e H Q := fun ro base w0 σ w a ho S hr L hv => by
  simp only [Bool.and_eq_true] at hc
  obtain ⟨⟨hp, hq⟩, hm⟩ := hc
  have hm : 0 < m := by simpa [Nat.blt_eq] using hm
  cases l with
  | nil => cases hp
  | cons o0 rest =>
    obtain ⟨d0, op0, ty, ps, af, gd⟩ := o0
    unfold pinOK at hp
    split at hp
    case h_2 => cases hp
    rename_i d t ty' ps' af' rest' heq
    cases heq
    simp only [Bool.and_eq_true, Array.isEmpty_iff, List.all_eq_true, Bool.or_eq_true, Option.isNone_iff_eq_none] at hp
    obtain ⟨⟨haf, hdt⟩, hrest⟩ := hp
    subst haf
    generalize hl : (⟨some d, Op.move (.tmp t), ty, ps, #[], none⟩ :: rest : List Oper) = l at *
    have h0 : l.toArray[0]? = some ⟨some d, .move (.tmp t), ty, ps, #[], none⟩ := by rw [← hl]; simp
    have hpos : 0 < l.toArray.size := (Array.getElem?_eq_some_iff.1 h0).1
    have h0r : ∀ (listed : Array Bool), listed.size = l.toArray.size → listed.getD 0 false = false → 0 ∈ Region.ready .any l.toArray listed := fun listed hs hd => by
      rw [mem_ready]
      refine ⟨?_, _, h0, fun e he => by simp at he⟩
      have h1 : 0 < listed.size := by omega
      simp [h1] at hd ⊢
      exact hd
    have hfree : ∀ k, 0 < k → ∀ o, l.toArray[k]? = some o → o.guard = none ∧ (edge0 o = true ∨ freeOf d t o = true) := fun k hk o ho => by
      obtain ⟨j, rfl⟩ : ∃ j, k = j + 1 := ⟨k - 1, by omega⟩
      have : rest[j]? = some o := by rw [← hl] at ho; simpa using ho
      exact hrest o (List.mem_of_getElem? this)
    have hnot : ∀ (L : List Nat) (listed : Array Bool), listed.size = l.toArray.size → listed.getD 0 false = true → ValidL l.toArray listed L → 0 ∉ L := by
      intro L
      induction L with
      | nil => intro listed _ _ _; simp
      | cons k L ih =>
        intro listed hs hd hv
        have hk := hv.1
        have hlt : k < l.toArray.size := valid_lt (L := k :: L) hv k (by simp)
        intro hm
        rcases List.mem_cons.1 hm with e | hm
        · subst e
          rw [mem_ready] at hk
          have h1 : 0 < listed.size := by omega
          have := hk.1
          simp [h1] at this hd
          rw [hd] at this; cases this
        · exact ih _ (by simpa using hs) (by rw [getD_set (by omega), hd]; rfl) hv.2 hm
    have hsplit : ∀ (L : List Nat) (listed : Array Bool), listed.size = l.toArray.size → listed.getD 0 false = false → ValidL l.toArray listed L → ∃ L1 L2, L = L1 ++ 0 :: L2 ∧ 0 ∉ L1 ∧ 0 ∉ L2 ∧ ∀ k ∈ L1, ∃ o, l.toArray[k]? = some o ∧ o.guard = none ∧ freeOf d t o = true := by
      intro L
      induction L with
      | nil => intro listed hs hd hv; have := h0r listed hs hd; rw [show Region.ready .any l.toArray listed = [] from hv] at this; cases this
      | cons k L ih =>
        intro listed hs hd hv
        have hk := hv.1
        have hlt : k < l.toArray.size := valid_lt (L := k :: L) hv k (by simp)
        by_cases hk0 : k = 0
        · subst hk0
          exact ⟨[], L, rfl, by simp, hnot L _ (by simpa using hs) (by rw [getD_set (by omega)]; simp) hv.2, by simp⟩
        · obtain ⟨L1, L2, e1, e2, e3, e4⟩ := ih _ (by simpa using hs) (by rw [getD_set (by omega), hd]; simp; omega) hv.2
          refine ⟨k :: L1, L2, by rw [e1]; rfl, by simp [e2]; omega, e3, fun x hx => ?_⟩
          rcases List.mem_cons.1 hx with rfl | hx
          · rw [mem_ready] at hk
            obtain ⟨-, o, ho, hE⟩ := hk
            obtain ⟨g1, g2⟩ := hfree x (by omega) o ho
            refine ⟨o, ho, g1, g2.resolve_left fun hedge => ?_⟩
            simp only [edge0, Array.any_eq_true] at hedge
            obtain ⟨i, hi, hx2⟩ := hedge
            simp only [Bool.and_eq_true] at hx2
            have := hE o.after[i] (Array.getElem_mem hi) hx2.2
            rw [Nat.eq_of_beq_eq_true hx2.1, hd] at this
            cases this
          · exact e4 x hx
    have hsz : (pinL m l).toArray.size = l.toArray.size := by simp [pinL]
    have hop2 : ∀ (k : Nat) (o : Oper), l.toArray[k]? = some o → (pinL m l).toArray[k]? = some (if k < m then o else waitO 0 o) := fun k o ho => by
      have : l[k]? = some o := by simpa using ho
      simp [pinL, this]
    have hop2' : ∀ (k : Nat) (o2 : Oper), (pinL m l).toArray[k]? = some o2 → ∃ o, l.toArray[k]? = some o ∧ o2 = if k < m then o else waitO 0 o := fun k o2 ho2 => by
      have hk : k < l.toArray.size := by have := (Array.getElem?_eq_some_iff.1 ho2).1; omega
      have h1 : l.toArray[k]? = some l.toArray[k] := Array.getElem?_eq_getElem hk
      have := hop2 k _ h1
      rw [ho2] at this
      exact ⟨_, h1, by cases this; rfl⟩
    have hval : ∀ (L : List Nat) (listed listed2 : Array Bool), listed.size = l.toArray.size → listed2.size = l.toArray.size → listed2.getD 0 false = true → (∀ k, k ≠ 0 → listed2.getD k false = listed.getD k false) → ValidL l.toArray listed L → ValidL (pinL m l).toArray listed2 (L.filter fun k => !Nat.beq k 0) := by
      intro L
      induction L with
      | nil =>
        intro listed listed2 hs hs2 h20 hrel hv
        have hv : Region.ready .any l.toArray listed = [] := hv
        have hl0 : listed.getD 0 false = true := by
          cases hd : listed.getD 0 false with
          | true => rfl
          | false => have := h0r listed hs hd; rw [hv] at this; cases this
        show Region.ready .any (pinL m l).toArray listed2 = []
        rw [List.eq_nil_iff_forall_not_mem]
        intro k hk
        rw [mem_ready] at hk
        obtain ⟨g1, o2, g2, g3⟩ := hk
        obtain ⟨o, ho, rfl⟩ := hop2' k o2 g2
        have hkl : k < l.toArray.size := (Array.getElem?_eq_some_iff.1 ho).1
        by_cases hk0 : k = 0
        · subst hk0
          have h1 : 0 < listed2.size := by omega
          simp [h1] at g1 h20
          rw [h20] at g1; cases g1
        · have : k ∈ Region.ready .any l.toArray listed := by
            rw [mem_ready]
            refine ⟨?_, o, ho, fun e he hb => ?_⟩
            · have h1 := hrel k hk0
              have h2 : k < listed.size := by omega
              have h3 : k < listed2.size := by omega
              simp [h2, h3] at g1 h1 ⊢
              rw [← h1]; exact g1
            · have := g3 e (by
                split
                · exact he
                · rw [waitO_after, Array.mem_push]; exact .inl he) hb
              by_cases he0 : e.on = 0
              · rw [he0]; exact hl0
              · rw [← hrel _ he0]; exact this
          rw [hv] at this; cases this
      | cons k L ih =>
        intro listed listed2 hs hs2 h20 hrel hv
        have hk := hv.1
        have hlt : k < l.toArray.size := valid_lt (L := k :: L) hv k (by simp)
        by_cases hk0 : k = 0
        · subst hk0
          rw [List.filter_cons_of_neg (by simp)]
          refine ih _ listed2 (by simpa using hs) hs2 h20 (fun j hj => ?_) hv.2
          rw [getD_set (by omega), hrel j hj]
          simp; omega
        · rw [List.filter_cons_of_pos (by rw [beq0 hk0]; rfl)]
          refine ⟨?_, ih _ _ (by simpa using hs) (by simpa using hs2) (by rw [getD_set (by omega), h20]; rfl) (fun j hj => ?_) hv.2⟩
          · rw [mem_ready] at hk ⊢
            obtain ⟨g1, o, g2, g3⟩ := hk
            refine ⟨?_, _, hop2 k o g2, fun e he hb => ?_⟩
            · have h1 := hrel k hk0
              have h2 : k < listed.size := by omega
              have h3 : k < listed2.size := by omega
              simp [h2, h3] at g1 h1 ⊢
              rw [h1]; exact g1
            · have he : e ∈ o.after ∨ e = ⟨0, .data⟩ := by
                split at he
                · exact .inl he
                · rw [waitO_after, Array.mem_push] at he; exact he
              rcases he with he | rfl
              · by_cases he0 : e.on = 0
                · rw [he0]; exact h20
                · rw [hrel _ he0]; exact g3 e he hb
              · exact h20
          · rw [getD_set (by omega), getD_set (by omega), hrel j hj]
    have rep : ∀ (m k : Nat), (Array.replicate m false).getD k false = false := fun m k => by
      simp [Array.getD_eq_getD_getElem?, Array.getElem?_replicate]
      split <;> rfl
    have hLt := valid_lt hv
    obtain ⟨L1, L2, rfl, n1, n2, hL1⟩ := hsplit L _ (by simp) (rep _ _) hv
    have hfil : (L1 ++ 0 :: L2).filter (fun k => !Nat.beq k 0) = L1 ++ L2 := by
      have hz : ∀ M : List Nat, 0 ∉ M → M.filter (fun k => !Nat.beq k 0) = M := fun M hM => List.filter_eq_self.2 fun x hx => by
        have : x ≠ 0 := fun e => hM (e ▸ hx)
        rw [beq0 this]; rfl
      rw [List.filter_append, List.filter_cons_of_neg (by simp), hz L1 n1, hz L2 n2]
    have hv2 := hval (L1 ++ 0 :: L2) _ ((Array.replicate (pinL m l).toArray.size false).setIfInBounds 0 true) (by simp) (by simp [hsz]) (by rw [getD_set (by simp [hsz]; simpa using hpos)]; simp) (fun k hk => by
      rw [getD_set (by simp [hsz]; simpa using hpos), rep, rep]
      simp; omega) hv
    rw [hfil] at hv2
    have hv3 : ValidL (pinL m l).toArray (Array.replicate (pinL m l).toArray.size false) (0 :: (L1 ++ L2)) := by
      refine ⟨?_, hv2⟩
      rw [mem_ready]
      refine ⟨?_, _, hop2 0 _ h0, fun e he => by rw [if_pos hm] at he; simp at he⟩
      have h1 : 0 < (pinL m l).toArray.size := by omega
      simp at h1
      simp [h1]
    have hrun := hA ro base w0 σ w a ho S hr _ hv3
    have hrun2 : wpOpsIn (fc ro) 0 P l.toArray (AWPost base w0 nt σ a.defers Q) (0 :: (L1 ++ L2)) a w := by
      have := ops_map (ops := l.toArray) (ops2 := (pinL m l).toArray) (f := fun k => k) (F := fc ro) (n := 0) (P := P) (Q := AWPost base w0 nt σ a.defers Q) (fun k o hk => by
        refine ⟨_, hop2 k o hk, ?_⟩
        have hqo := List.all_eq_true.1 hq o (List.mem_of_getElem? (show l[k]? = some o by simpa using hk))
        simp only [Bool.and_eq_true, Option.isNone_iff_eq_none] at hqo
        split
        · exact ⟨rfl, rfl, rfl, rfl, hqo.1, hqo.1⟩
        · exact ⟨rfl, rfl, rfl, rfl, hqo.1, hqo.1⟩) (0 :: (L1 ++ L2)) a w (fun k hk => by
          rcases List.mem_cons.1 hk with rfl | hk
          · exact hpos
          · refine hLt k ?_
            rcases List.mem_append.1 hk with hk | hk
            · exact List.mem_append_left _ hk
            · exact List.mem_append_right _ (List.mem_cons_of_mem _ hk))
      refine this ?_
      rw [show (0 :: (L1 ++ L2)).map (fun k => k) = 0 :: (L1 ++ L2) by simp]
      exact hrun
    exact pin_along h0 (fun c a a' w hh => by
      obtain ⟨x, σ', e', H', hx, -⟩ := hh
      cases x <;> cases hx) L2 L1 hL1 a w hrun2
end
end Go.Proofs.Ytbimapbcpmeooaa.AX
