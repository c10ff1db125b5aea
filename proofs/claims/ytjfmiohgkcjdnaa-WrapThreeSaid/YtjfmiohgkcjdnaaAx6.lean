/- A plain reading of runs: stepping through a statement whose order is open, whose first operations leave what was there before. -/
import Derived.Test.YtjfmiohgkcjdnaaAx3
namespace Go.Proofs.Ytjfmiohgkcjdnaa.AX
open Go Go.RowKit

section
variable {P : Program} {nt : Nat} {ops : Array Oper} {e : Env} {H H0 : AH}
/-- What was there before is as it was, after a writing. -/
def extO (o : Op) (H0 H' : AH) : Prop := isW o = true → Ext H0 H'
/-- The first m operations leave what was there before, and what they read lay there before; the others are in order with what they touch. -/
def wpV (P : Program) (nt : Nat) (ops : Array Oper) (H0 : AH) : Nat → List Oper → Env → AH → (Env → AH → Prop) → Prop
  | 0, l, e, H, K => wpT P nt ops l e H K
  | _ + 1, [], e, H, K => K e H
  | m + 1, o :: rest, e, H, K =>
    wantS (wantedA ops e o)
      (dstOk nt o.dst = true ∧
        if isFnCall o.op then callS (opCall P (oval e) o.op) fun f args => exX P H f args fun v H' => wpV P nt ops H0 m rest (putDst e o.dst (some v)) H' K
        else resS (execN P (oval e) (rdH o.op H0 H) o.op) fun v H' => extO o.op H0 H' ∧ wpV P nt ops H0 m rest (putDst e o.dst v) (bkH o.op H H') K)
      (wpV P nt ops H0 m rest (putDst e o.dst none) H K)
theorem wpV_trace : ∀ {m : Nat} {l : List Oper} {e : Env} {H : AH} {K : Env → AH → Prop}, Ext H0 H → wpV P nt ops H0 m l e H K →
    ∃ tr e' H', Trace P nt ops l e H tr e' H' ∧ (∀ (i : Nat) (o : Oper) (r : Rec), i < m → l[i]? = some o → tr[i]? = some r → Ext H0 r.H ∧ Ext H0 r.H' ∧ (isR o.op = true → wantedA ops r.e o = some true → execN P (oval r.e) H0 o.op = some (r.v, H0))) ∧ K e' H'
  | 0, l, e, H, K, _, h => by
    obtain ⟨tr, e', H', h1, h2⟩ := wpT_trace (show wpT P nt ops l e H K from h)
    exact ⟨tr, e', H', h1, fun i o r hi => by omega, h2⟩
  | m + 1, [], e, H, K, _, h => ⟨[], e, H, .nil _ _, by simp, h⟩
  | m + 1, o :: rest, e, H, K, hE, h => by
    simp only [wpV] at h
    have step : ∀ {tr : List Rec} {r0 : Rec}, (Ext H0 r0.H ∧ Ext H0 r0.H' ∧ (isR o.op = true → wantedA ops r0.e o = some true → execN P (oval r0.e) H0 o.op = some (r0.v, H0))) →
        (∀ (i : Nat) (o : Oper) (r : Rec), i < m → rest[i]? = some o → tr[i]? = some r → Ext H0 r.H ∧ Ext H0 r.H' ∧ (isR o.op = true → wantedA ops r.e o = some true → execN P (oval r.e) H0 o.op = some (r.v, H0))) →
        ∀ (i : Nat) (o' : Oper) (r : Rec), i < m + 1 → (o :: rest)[i]? = some o' → (r0 :: tr)[i]? = some r → Ext H0 r.H ∧ Ext H0 r.H' ∧ (isR o'.op = true → wantedA ops r.e o' = some true → execN P (oval r.e) H0 o'.op = some (r.v, H0)) := by
      intro tr r0 h1 h2 i o' r hi ho hr
      cases i with
      | zero => simp at ho hr; subst ho; subst hr; exact h1
      | succ i => exact h2 i o' r (by omega) (by simpa using ho) (by simpa using hr)
    cases hw : wantedA ops e o with
    | none => rw [hw] at h; exact h.elim
    | some b =>
      rw [hw] at h
      cases b with
      | false =>
        obtain ⟨tr, e', H', h1, h2, h3⟩ := wpV_trace hE (h.2 rfl)
        exact ⟨_, e', H', .skip hw h1, step ⟨hE, hE, fun _ h => by rw [hw] at h; cases h⟩ h2, h3⟩
      | true =>
        obtain ⟨hd, h⟩ := h.1 rfl
        split at h
        · rename_i hfn
          cases hc : opCall P (oval e) o.op with
          | none => rw [hc] at h; exact h.elim
          | some x =>
            obtain ⟨f, args⟩ := x
            rw [hc] at h
            obtain ⟨v, H1, hAC, hE1, h⟩ := h
            obtain ⟨tr, e', H', h1, h2, h3⟩ := wpV_trace (hE.trans hE1) h
            refine ⟨_, e', H', .call hw hc hd hAC h1, step ⟨hE, hE.trans hE1, fun hR => ?_⟩ h2, h3⟩
            have := opCall_isW hc
            have := isR_notW hR
            simp_all
        · rename_i hnf
          cases hR : isR o.op with
          | true =>
            simp only [rdH, bkH, hR, if_true] at h
            cases hx : execN P (oval e) H0 o.op with
            | none => rw [hx] at h; exact h.elim
            | some x =>
              obtain ⟨v, H1⟩ := x
              have hH := execN_same (isR_notW hR) hx
              rw [hx] at h
              have hx' : execN P (oval e) H0 o.op = some (v, H0) := by rw [hx, hH]
              have h : wpV P nt ops H0 m rest (putDst e o.dst v) H K := h.2
              obtain ⟨tr, e', H', h1, h2, h3⟩ := wpV_trace hE h
              exact ⟨_, e', H', .op hw (execN_ext hR hE hx') hd h1, step ⟨hE, hE, fun _ _ => hx'⟩ h2, h3⟩
          | false =>
            simp only [rdH, bkH, hR, Bool.false_eq_true, if_false] at h
            cases hx : execN P (oval e) H o.op with
            | none => rw [hx] at h; exact h.elim
            | some x =>
              obtain ⟨v, H1⟩ := x
              rw [hx] at h
              have hE1 : Ext H0 H1 := by
                cases hW : isW o.op with
                | false => rw [execN_same hW hx]; exact hE
                | true => exact h.1 hW
              have h : wpV P nt ops H0 m rest (putDst e o.dst v) H1 K := h.2
              obtain ⟨tr, e', H', h1, h2, h3⟩ := wpV_trace hE1 h
              exact ⟨_, e', H', .op hw hx hd h1, step ⟨hE, hE1, fun h => by rw [hR] at h; cases h⟩ h2, h3⟩
/-- Reads and writings that are in no order are among the first m operations. -/
def partV (m : Nat) (ops : Array Oper) : Bool :=
  ordOK ops && (let ms := masks ops.toList []; ops.toList.zipIdx.all fun x => !isR x.1.op || ops.toList.zipIdx.all fun y => !isW y.1.op || anc ms x.2 y.2 || anc ms y.2 x.2 || (decide (x.2 < m) && decide (y.2 < m)))
theorem L_regV (hm : P.follows .mixedOrders = true) (m : Nat) {id : Nat} {l : List Oper} {cs : List Code} {Q : Ex → Env → AH → Prop} (ks : List Nat) (hs : partV m l.toArray = true)
    (h : ∀ K : Env → AH → Prop, (∀ e' H', AWL P nt cs e' H' Q → K e' H') → wpV P nt l.toArray H m l e H fun e H => K (ekeep ks e) H) : AWL P nt (.region id l.toArray true :: cs) e H Q := by
  simp only [partV, Bool.and_eq_true, List.all_eq_true, Bool.or_eq_true, Bool.not_eq_true', decide_eq_true_eq] at hs
  have mem : ∀ (i : Nat) (o : Oper), l.toArray[i]? = some o → (o, i) ∈ l.toArray.toList.zipIdx := by
    intro i o ho
    rw [List.mk_mem_zipIdx_iff_getElem?, Array.getElem?_toList]; exact ho
  obtain ⟨tr, e', H', hT, hX, hk⟩ := wpV_trace (.refl H) (h (fun e' H' => AWL P nt cs e' H' Q) fun e' H' h => h)
  refine AWL_cons (AW_draw hm ks hT ⟨hs.1, ?_⟩ hk)
  intro i j o p r s ho hp hri hsj hR hW hw h1 h2
  rcases hs.2 _ (mem i o ho) with h3 | h3
  · rw [hR] at h3; cases h3
  rcases h3 _ (mem j p hp) with ((h4 | h4) | h4) | ⟨h4, h5⟩
  · rw [hW] at h4; cases h4
  · rw [h1] at h4; cases h4
  · rw [h2] at h4; cases h4
  obtain ⟨-, -, g⟩ := hX i o r h4 (by simpa using ho) hri
  obtain ⟨e1, e2, -⟩ := hX j p s h5 (by simpa using hp) hsj
  have g := g hR hw
  exact ⟨execN_ext hR e1 g, execN_ext hR e2 g⟩
@[congr] theorem c_wpVx {m : Nat} {l : List Oper} {e e' : Env} {H H' : AH} {K : Env → AH → Prop} (h : e = e') (h' : H = H') : wpV P nt ops H0 m l e H K = wpV P nt ops H0 m l e' H' K := by rw [h, h']
@[simp] theorem wv_zero (l : List Oper) (K : Env → AH → Prop) : wpV P nt ops H0 0 l e H K = wpT P nt ops l e H K := by cases l <;> rfl
@[simp] theorem wv_consN (m : Nat) (d : Option Tmp) (op : Op) (t : TypeId) (p : String) (af : Array Edge) (rest : List Oper) (K : Env → AH → Prop) : wpV P nt ops H0 (m + 1) (⟨d, op, t, p, af, none⟩ :: rest) e H K =
      (dstOk nt d = true ∧
        if isFnCall op then callS (opCall P (oval e) op) fun f args => exX P H f args (holdQ (fun v H' => wpV P nt ops H0 m rest (putDst e d (some v)) H' K) ⟨⟩)
        else resS (execN P (oval e) (rdH op H0 H) op) (holdQ (fun v H' => extO op H0 H' ∧ wpV P nt ops H0 m rest (putDst e d v) (bkH op H H') K) ⟨⟩)) := by
  simp only [wpV, wantedA, wantS, holdQ]
  simp
/-- Operations that leave what was there before; the marked ones read what lay there before. -/
def wpU (P : Program) (nt : Nat) (ops : Array Oper) (H0 : AH) : List Bool → List Oper → Env → AH → (Env → AH → Prop) → Prop
  | [], l, e, H, K => wpT P nt ops l e H K
  | _ :: _, [], e, H, K => K e H
  | b :: ms, o :: rest, e, H, K =>
    wantS (wantedA ops e o)
      (dstOk nt o.dst = true ∧
        if isFnCall o.op then callS (opCall P (oval e) o.op) fun f args => exX P H f args fun v H' => wpU P nt ops H0 ms rest (putDst e o.dst (some v)) H' K
        else if b then resS (execN P (oval e) H0 o.op) fun v _ => wpU P nt ops H0 ms rest (putDst e o.dst v) H K
        else resS (execN P (oval e) H o.op) fun v H' => extO o.op H0 H' ∧ wpU P nt ops H0 ms rest (putDst e o.dst v) H' K)
      (wpU P nt ops H0 ms rest (putDst e o.dst none) H K)
theorem wpU_trace : ∀ {ms : List Bool} {l : List Oper} {e : Env} {H : AH} {K : Env → AH → Prop}, (∀ (i : Nat) (o : Oper), ms[i]? = some true → l[i]? = some o → isR o.op = true) → Ext H0 H → wpU P nt ops H0 ms l e H K →
    ∃ tr e' H', Trace P nt ops l e H tr e' H' ∧ (∀ (i : Nat) (o : Oper) (r : Rec), i < ms.length → l[i]? = some o → tr[i]? = some r → Ext H0 r.H ∧ Ext H0 r.H' ∧ (ms[i]? = some true → wantedA ops r.e o = some true → execN P (oval r.e) H0 o.op = some (r.v, H0))) ∧ K e' H'
  | [], l, e, H, K, _, _, h => by
    obtain ⟨tr, e', H', h1, h2⟩ := wpT_trace (show wpT P nt ops l e H K from h)
    exact ⟨tr, e', H', h1, fun i o r hi => by simp at hi, h2⟩
  | b :: ms, [], e, H, K, _, _, h => ⟨[], e, H, .nil _ _, by simp, h⟩
  | b :: ms, o :: rest, e, H, K, hq, hE, h => by
    have hq' : ∀ (i : Nat) (o : Oper), ms[i]? = some true → rest[i]? = some o → isR o.op = true := fun i p hi hp => hq (i + 1) p (by simpa using hi) (by simpa using hp)
    simp only [wpU] at h
    have step : ∀ {tr : List Rec} {r0 : Rec}, (Ext H0 r0.H ∧ Ext H0 r0.H' ∧ (b = true → wantedA ops r0.e o = some true → execN P (oval r0.e) H0 o.op = some (r0.v, H0))) →
        (∀ (i : Nat) (o : Oper) (r : Rec), i < ms.length → rest[i]? = some o → tr[i]? = some r → Ext H0 r.H ∧ Ext H0 r.H' ∧ (ms[i]? = some true → wantedA ops r.e o = some true → execN P (oval r.e) H0 o.op = some (r.v, H0))) →
        ∀ (i : Nat) (o' : Oper) (r : Rec), i < (b :: ms).length → (o :: rest)[i]? = some o' → (r0 :: tr)[i]? = some r → Ext H0 r.H ∧ Ext H0 r.H' ∧ ((b :: ms)[i]? = some true → wantedA ops r.e o' = some true → execN P (oval r.e) H0 o'.op = some (r.v, H0)) := by
      intro tr r0 h1 h2 i o' r hi ho hr
      cases i with
      | zero => simp at ho hr; subst ho; subst hr; simpa using h1
      | succ i => simpa using h2 i o' r (by simpa using hi) (by simpa using ho) (by simpa using hr)
    cases hw : wantedA ops e o with
    | none => rw [hw] at h; exact h.elim
    | some c =>
      rw [hw] at h
      cases c with
      | false =>
        obtain ⟨tr, e', H', h1, h2, h3⟩ := wpU_trace hq' hE (h.2 rfl)
        exact ⟨_, e', H', .skip hw h1, step ⟨hE, hE, fun _ h => by rw [hw] at h; cases h⟩ h2, h3⟩
      | true =>
        obtain ⟨hd, h⟩ := h.1 rfl
        split at h
        · rename_i hfn
          cases hc : opCall P (oval e) o.op with
          | none => rw [hc] at h; exact h.elim
          | some x =>
            obtain ⟨f, args⟩ := x
            rw [hc] at h
            obtain ⟨v, H1, hAC, hE1, h⟩ := h
            obtain ⟨tr, e', H', h1, h2, h3⟩ := wpU_trace hq' (hE.trans hE1) h
            refine ⟨_, e', H', .call hw hc hd hAC h1, step ⟨hE, hE.trans hE1, fun hb => ?_⟩ h2, h3⟩
            have := opCall_isW hc
            have := isR_notW (hq 0 o (by simp [hb]) (by simp))
            simp_all
        · rename_i hnf
          split at h
          · rename_i hb
            have hR := hq 0 o (by simp [hb]) (by simp)
            cases hx : execN P (oval e) H0 o.op with
            | none => rw [hx] at h; exact h.elim
            | some x =>
              obtain ⟨v, H1⟩ := x
              have hH := execN_same (isR_notW hR) hx
              rw [hx] at h
              have hx' : execN P (oval e) H0 o.op = some (v, H0) := by rw [hx, hH]
              have h : wpU P nt ops H0 ms rest (putDst e o.dst v) H K := h
              obtain ⟨tr, e', H', h1, h2, h3⟩ := wpU_trace hq' hE h
              exact ⟨_, e', H', .op hw (execN_ext hR hE hx') hd h1, step ⟨hE, hE, fun _ _ => hx'⟩ h2, h3⟩
          · rename_i hb
            cases hx : execN P (oval e) H o.op with
            | none => rw [hx] at h; exact h.elim
            | some x =>
              obtain ⟨v, H1⟩ := x
              rw [hx] at h
              have hE1 : Ext H0 H1 := by
                cases hW : isW o.op with
                | false => rw [execN_same hW hx]; exact hE
                | true => exact h.1 hW
              have h : wpU P nt ops H0 ms rest (putDst e o.dst v) H1 K := h.2
              obtain ⟨tr, e', H', h1, h2, h3⟩ := wpU_trace hq' hE1 h
              exact ⟨_, e', H', .op hw hx hd h1, step ⟨hE, hE1, fun h => absurd h hb⟩ h2, h3⟩
/-- Reads that are in no order with a writing are marked, and the writing is among the first ones. -/
def markS (ms : List Bool) (ops : Array Oper) : Bool :=
  ordOK ops && (let mk := masks ops.toList []; ops.toList.zipIdx.all fun x => !isR x.1.op || ops.toList.zipIdx.all fun y => !isW y.1.op || anc mk x.2 y.2 || anc mk y.2 x.2 || ((ms[x.2]?).getD false && decide (x.2 < ms.length) && decide (y.2 < ms.length))) &&
    ops.toList.zipIdx.all fun z => !((ms[z.2]?).getD false) || isR z.1.op
theorem L_regU (hm : P.follows .mixedOrders = true) (ms : List Bool) {id : Nat} {l : List Oper} {cs : List Code} {Q : Ex → Env → AH → Prop} (ks : List Nat) (hs : markS ms l.toArray = true)
    (h : ∀ K : Env → AH → Prop, (∀ e' H', AWL P nt cs e' H' Q → K e' H') → wpU P nt l.toArray H ms l e H fun e H => K (ekeep ks e) H) : AWL P nt (.region id l.toArray true :: cs) e H Q := by
  simp only [markS, Bool.and_eq_true, List.all_eq_true, Bool.or_eq_true, Bool.not_eq_true', decide_eq_true_eq] at hs
  have mem : ∀ (i : Nat) (o : Oper), l.toArray[i]? = some o → (o, i) ∈ l.toArray.toList.zipIdx := by
    intro i o ho
    rw [List.mk_mem_zipIdx_iff_getElem?, Array.getElem?_toList]; exact ho
  obtain ⟨tr, e', H', hT, hX, hk⟩ := wpU_trace (fun i o hi ho => by
    rcases hs.2 _ (mem i o (by simpa using ho)) with h1 | h1
    · simp [hi] at h1
    · exact h1) (.refl H) (h (fun e' H' => AWL P nt cs e' H' Q) fun e' H' h => h)
  refine AWL_cons (AW_draw hm ks hT ⟨hs.1.1, ?_⟩ hk)
  intro i j o p r s ho hp hri hsj hR hW hw h1 h2
  rcases hs.1.2 _ (mem i o ho) with h3 | h3
  · rw [hR] at h3; cases h3
  rcases h3 _ (mem j p hp) with ((h4 | h4) | h4) | ⟨⟨h4, h6⟩, h5⟩
  · rw [hW] at h4; cases h4
  · rw [h1] at h4; cases h4
  · rw [h2] at h4; cases h4
  have h4' : ms[i]? = some true := by
    cases hc : ms[i]? with
    | none => rw [hc] at h4; simp at h4
    | some c => rw [hc] at h4; simp at h4; rw [h4]
  obtain ⟨-, -, g⟩ := hX i o r h6 (by simpa using ho) hri
  obtain ⟨e1, e2, -⟩ := hX j p s h5 (by simpa using hp) hsj
  have g := g h4' hw
  exact ⟨execN_ext hR e1 g, execN_ext hR e2 g⟩
@[congr] theorem c_wpU {ms : List Bool} {l : List Oper} {e e' : Env} {H H' : AH} {K : Env → AH → Prop} (h : e = e') (h' : H = H') : wpU P nt ops H0 ms l e H K = wpU P nt ops H0 ms l e' H' K := by rw [h, h']
@[simp] theorem wu_nil (l : List Oper) (K : Env → AH → Prop) : wpU P nt ops H0 [] l e H K = wpT P nt ops l e H K := by cases l <;> rfl
@[simp] theorem wu_end (ms : List Bool) (K : Env → AH → Prop) : wpU P nt ops H0 ms [] e H K = K e H := by cases ms <;> rfl
@[simp] theorem wu_consN (b : Bool) (ms : List Bool) (d : Option Tmp) (op : Op) (t : TypeId) (p : String) (af : Array Edge) (rest : List Oper) (K : Env → AH → Prop) : wpU P nt ops H0 (b :: ms) (⟨d, op, t, p, af, none⟩ :: rest) e H K =
      (dstOk nt d = true ∧
        if isFnCall op then callS (opCall P (oval e) op) fun f args => exX P H f args (holdQ (fun v H' => wpU P nt ops H0 ms rest (putDst e d (some v)) H' K) ⟨⟩)
        else if b then resS (execN P (oval e) H0 op) (holdQ (fun v _ => wpU P nt ops H0 ms rest (putDst e d v) H K) ⟨⟩)
        else resS (execN P (oval e) H op) (holdQ (fun v H' => extO op H0 H' ∧ wpU P nt ops H0 ms rest (putDst e d v) H' K) ⟨⟩)) := by
  simp only [wpU, wantedA, wantS, holdQ]
  simp
@[simp] theorem extO_load (t : TypeId) (x : Operand) : extO (.load t x) H0 H = True := eq_true fun h => by simp [isW] at h
@[simp] theorem extO_move (x : Operand) : extO (.move x) H0 H = True := eq_true fun h => by simp [isW] at h
@[simp] theorem extO_binOp (o : BinOp) (t u : TypeId) (x y : Operand) : extO (.binOp o t x y u) H0 H = True := eq_true fun h => by simp [isW] at h
@[simp] theorem extO_unOp (o : UnOp) (t : TypeId) (x : Operand) : extO (.unOp o t x) H0 H = True := eq_true fun h => by simp [isW] at h
@[simp] theorem extO_convert (a b : TypeId) (x : Operand) : extO (.convert a b x) H0 H = True := eq_true fun h => by simp [isW] at h
@[simp] theorem extO_pick (x y z : Operand) : extO (.pick x y z) H0 H = True := eq_true fun h => by simp [isW] at h
@[simp] theorem extO_fieldAddr (t : TypeId) (x : Operand) (f : Nat) : extO (.fieldAddr t x f) H0 H = True := eq_true fun h => by simp [isW] at h
@[simp] theorem extO_field (t : TypeId) (x : Operand) (f : Nat) : extO (.field t x f) H0 H = True := eq_true fun h => by simp [isW] at h
@[simp] theorem extO_indexAddr (t : TypeId) (x i : Operand) : extO (.indexAddr t x i) H0 H = True := eq_true fun h => by simp [isW] at h
@[simp] theorem extO_index (t : TypeId) (x i : Operand) : extO (.index t x i) H0 H = True := eq_true fun h => by simp [isW] at h
@[simp] theorem extO_extract (x : Operand) (i : Nat) : extO (.extract x i) H0 H = True := eq_true fun h => by simp [isW] at h
@[simp] theorem extO_assign (x : Operand) : extO (.assign x) H0 H = True := eq_true fun h => by simp [isW] at h
@[simp] theorem extO_build (t : TypeId) (ps : Array (Nat × Operand)) : extO (.build t ps) H0 H = True := eq_true fun h => by simp [isW] at h
@[simp] theorem extO_makeFunc (f : Fn) (a b : Array Operand) : extO (.makeFunc f a b) H0 H = True := eq_true fun h => by simp [isW] at h
@[simp] theorem rd_store (t : TypeId) (x y : Operand) : rdH (.store t x y) H0 H = H := rfl
@[simp] theorem bk_store (t : TypeId) (x y : Operand) : bkH (.store t x y) H H0 = H0 := rfl
@[simp] theorem extO_store (t : TypeId) (x y : Operand) : extO (.store t x y) H0 H = Ext H0 H := propext ⟨fun h => h rfl, fun h _ => h⟩
@[simp] theorem extO_alloc (t : TypeId) : extO (.alloc t) H0 H = Ext H0 H := propext ⟨fun h => h rfl, fun h _ => h⟩
@[simp] theorem extO_buildSlice (t : TypeId) (n : Nat) (ps : Array (Nat × Operand)) : extO (.buildSlice t n ps) H0 H = Ext H0 H := propext ⟨fun h => h rfl, fun h _ => h⟩
@[simp] theorem extO_call (c : Go.Call) : extO (.call c) H0 H = (isW (.call c) = true → Ext H0 H) := rfl
end
end Go.Proofs.Ytjfmiohgkcjdnaa.AX
