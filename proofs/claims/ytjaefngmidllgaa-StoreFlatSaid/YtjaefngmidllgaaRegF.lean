/- A statement whose order is open: calls may change rows beside which the marked loads read others. -/
import Derived.Test.YtjaefngmidllgaaAxR
namespace Go.Proofs.Ytjaefngmidllgaa.AX
open Go Go.RowKit
set_option linter.unusedVariables false
section
variable {P : Program} {nt : Nat} {ops : Array Oper} {e : Env} {H H0 : AH} {S : List Nat}
/-- Operations that leave all old rows but some as they were; the marked ones are loads from other rows. -/
def wpF (P : Program) (nt : Nat) (ops : Array Oper) (S : List Nat) (H0 : AH) : List Bool → List Oper → Env → AH → (Env → AH → Prop) → Prop
  | [], l, e, H, K => wpT P nt ops l e H K
  | _ :: _, [], e, H, K => K e H
  | b :: ms, o :: rest, e, H, K =>
    wantS (wantedA ops e o)
      (dstOk nt o.dst = true ∧
        if isFnCall o.op then callS (opCall P (oval e) o.op) fun f args => exC P H f args fun v H' => KeepS S H0 H' ∧ wpF P nt ops S H0 ms rest (putDst e o.dst (some v)) H' K
        else if b then resS (val1 H0 (ldS P S H0 (oval e) o.op)) fun v _ => wpF P nt ops S H0 ms rest (putDst e o.dst v) H K
        else resS (execN P (oval e) H o.op) fun v H' => keepO S o.op H0 H' ∧ wpF P nt ops S H0 ms rest (putDst e o.dst v) H' K)
      (wpF P nt ops S H0 ms rest (putDst e o.dst none) H K)
theorem wpF_trace : ∀ {ms : List Bool} {l : List Oper} {e : Env} {H : AH} {K : Env → AH → Prop}, (∀ (i : Nat) (o : Oper), ms[i]? = some true → l[i]? = some o → isR o.op = true) → KeepS S H0 H → wpF P nt ops S H0 ms l e H K →
    ∃ tr e' H', Trace P nt ops l e H tr e' H' ∧ (∀ (i : Nat) (o : Oper) (r : Rec), i < ms.length → l[i]? = some o → tr[i]? = some r → KeepS S H0 r.H ∧ KeepS S H0 r.H' ∧ (ms[i]? = some true → wantedA ops r.e o = some true → ∀ H1, KeepS S H0 H1 → execN P (oval r.e) H1 o.op = some (r.v, H1))) ∧ K e' H'
  | [], l, e, H, K, _, _, h => by
    obtain ⟨tr, e', H', h1, h2⟩ := wpT_trace (show wpT P nt ops l e H K from h)
    exact ⟨tr, e', H', h1, fun i o r hi => by simp at hi, h2⟩
  | b :: ms, [], e, H, K, _, _, h => ⟨[], e, H, .nil _ _, by simp, h⟩
  | b :: ms, o :: rest, e, H, K, hq, hE, h => by
    have hq' : ∀ (i : Nat) (o : Oper), ms[i]? = some true → rest[i]? = some o → isR o.op = true := fun i p hi hp => hq (i + 1) p (by simpa using hi) (by simpa using hp)
    simp only [wpF] at h
    have step : ∀ {tr : List Rec} {r0 : Rec}, (KeepS S H0 r0.H ∧ KeepS S H0 r0.H' ∧ (b = true → wantedA ops r0.e o = some true → ∀ H1, KeepS S H0 H1 → execN P (oval r0.e) H1 o.op = some (r0.v, H1))) →
        (∀ (i : Nat) (o : Oper) (r : Rec), i < ms.length → rest[i]? = some o → tr[i]? = some r → KeepS S H0 r.H ∧ KeepS S H0 r.H' ∧ (ms[i]? = some true → wantedA ops r.e o = some true → ∀ H1, KeepS S H0 H1 → execN P (oval r.e) H1 o.op = some (r.v, H1))) →
        ∀ (i : Nat) (o' : Oper) (r : Rec), i < (b :: ms).length → (o :: rest)[i]? = some o' → (r0 :: tr)[i]? = some r → KeepS S H0 r.H ∧ KeepS S H0 r.H' ∧ ((b :: ms)[i]? = some true → wantedA ops r.e o' = some true → ∀ H1, KeepS S H0 H1 → execN P (oval r.e) H1 o'.op = some (r.v, H1)) := by
      intro tr r0 h1 h2 i o' r hi ho hr
      cases i with
      | zero => simp at ho hr; subst ho; subst hr; simpa using h1
      | succ i => simpa using h2 i o' r (by simpa using hi) (by simpa using ho) (by simpa using hr)
    cases hw : wantedA ops e o with
    | none => rw [hw] at h; exact h.elim
    | some c =>
      rw [hw] at h
      cases c with
      | false =>
        obtain ⟨tr, e', H', h1, h2, h3⟩ := wpF_trace hq' hE (h.2 rfl)
        exact ⟨_, e', H', .skip hw h1, step ⟨hE, hE, fun _ h => by rw [hw] at h; cases h⟩ h2, h3⟩
      | true =>
        obtain ⟨hd, h⟩ := h.1 rfl
        split at h
        · rename_i hfn
          cases hc : opCall P (oval e) o.op with
          | none => rw [hc] at h; exact h.elim
          | some x =>
            obtain ⟨f, args⟩ := x
            rw [hc] at h
            obtain ⟨v, H1, hAC, hE1, h⟩ := h
            obtain ⟨tr, e', H', h1, h2, h3⟩ := wpF_trace hq' hE1 h
            refine ⟨_, e', H', .call hw hc hd hAC h1, step ⟨hE, hE1, fun hb => ?_⟩ h2, h3⟩
            have := opCall_isW hc
            have := isR_notW (hq 0 o (by simp [hb]) (by simp))
            simp_all
        · rename_i hnf
          split at h
          · rename_i hb
            cases hx : ldS P S H0 (oval e) o.op with
            | none => rw [hx] at h; exact h.elim
            | some v =>
              rw [hx] at h
              have hx' : ∀ H1, KeepS S H0 H1 → execN P (oval e) H1 o.op = some (some v, H1) := fun H1 hK => ldS_exec hK hx
              have h : wpF P nt ops S H0 ms rest (putDst e o.dst (some v)) H K := h
              obtain ⟨tr, e', H', h1, h2, h3⟩ := wpF_trace hq' hE h
              exact ⟨_, e', H', .op hw (hx' H hE) hd h1, step ⟨hE, hE, fun _ _ => hx'⟩ h2, h3⟩
          · rename_i hb
            cases hx : execN P (oval e) H o.op with
            | none => rw [hx] at h; exact h.elim
            | some x =>
              obtain ⟨v, H1⟩ := x
              rw [hx] at h
              have hE1 : KeepS S H0 H1 := by
                cases hW : isW o.op with
                | false => rw [execN_same hW hx]; exact hE
                | true => exact h.1 hW
              have h : wpF P nt ops S H0 ms rest (putDst e o.dst v) H1 K := h.2
              obtain ⟨tr, e', H', h1, h2, h3⟩ := wpF_trace hq' hE1 h
              exact ⟨_, e', H', .op hw hx hd h1, step ⟨hE, hE1, fun h => absurd h hb⟩ h2, h3⟩
theorem L_regF (hm : P.follows .mixedOrders = true) (S : List Nat) (ms : List Bool) {id : Nat} {l : List Oper} {cs : List Code} {Q : Ex → Env → AH → Prop} (ks : List Nat) (hs : markT ms l.toArray = true)
    (h : ∀ K : Env → AH → Prop, (∀ e' H', AWL P nt cs e' H' Q → K e' H') → wpF P nt l.toArray S H ms l e H fun e H => K (ekeep ks e) H) : AWL P nt (.region id l.toArray true :: cs) e H Q := by
  simp only [markT, Bool.and_eq_true, List.all_eq_true, Bool.or_eq_true, Bool.not_eq_true', decide_eq_true_eq] at hs
  have mem : ∀ (i : Nat) (o : Oper), l.toArray[i]? = some o → (o, i) ∈ l.toArray.toList.zipIdx := by
    intro i o ho
    rw [List.mk_mem_zipIdx_iff_getElem?, Array.getElem?_toList]; exact ho
  obtain ⟨tr, e', H', hT, hX, hk⟩ := wpF_trace (fun i o hi ho => by
    rcases hs.2 _ (mem i o (by simpa using ho)) with h1 | h1
    · simp [hi] at h1
    · exact h1) (.refl S H) (h (fun e' H' => AWL P nt cs e' H' Q) fun e' H' h => h)
  refine AWL_cons (AW_draw hm ks hT ⟨hs.1.1, ?_⟩ hk)
  intro i j o p r s ho hp hri hsj hR hW hw h1 h2
  rcases hs.1.2 _ (mem i o ho) with h3 | h3
  · rw [hR] at h3; cases h3
  rcases h3 _ (mem j p hp) with ((h4 | h4) | h4) | ⟨⟨h4, h6⟩, h5⟩
  · rw [hW] at h4; cases h4
  · rw [h1] at h4; cases h4
  · rw [h2] at h4; cases h4
  have h4' : ms[i]? = some true := by
    cases hc : ms[i]? with
    | none => rw [hc] at h4; simp at h4
    | some c => rw [hc] at h4; simp at h4; rw [h4]
  obtain ⟨-, -, g⟩ := hX i o r h6 (by simpa using ho) hri
  obtain ⟨e1, e2, -⟩ := hX j p s h5 (by simpa using hp) hsj
  have g := g h4' hw
  exact ⟨g _ e1, g _ e2⟩
@[congr] theorem c_wpF {ms : List Bool} {l : List Oper} {e e' : Env} {H H' : AH} {K : Env → AH → Prop} (h : e = e') (h' : H = H') : wpF P nt ops S H0 ms l e H K = wpF P nt ops S H0 ms l e' H' K := by rw [h, h']
@[simp] theorem wf_nil (l : List Oper) (K : Env → AH → Prop) : wpF P nt ops S H0 [] l e H K = wpT P nt ops l e H K := by cases l <;> rfl
@[simp] theorem wf_end (ms : List Bool) (K : Env → AH → Prop) : wpF P nt ops S H0 ms [] e H K = K e H := by cases ms <;> rfl
@[simp] theorem wf_consN (b : Bool) (ms : List Bool) (d : Option Tmp) (op : Op) (t : TypeId) (p : String) (af : Array Edge) (rest : List Oper) (K : Env → AH → Prop) : wpF P nt ops S H0 (b :: ms) (⟨d, op, t, p, af, none⟩ :: rest) e H K =
      (dstOk nt d = true ∧
        if isFnCall op then callS (opCall P (oval e) op) fun f args => exC P H f args (holdQ (fun v H' => KeepS S H0 H' ∧ wpF P nt ops S H0 ms rest (putDst e d (some v)) H' K) ⟨⟩)
        else if b then resS (val1 H0 (ldS P S H0 (oval e) op)) (holdQ (fun v _ => wpF P nt ops S H0 ms rest (putDst e d v) H K) ⟨⟩)
        else resS (execN P (oval e) H op) (holdQ (fun v H' => keepO S op H0 H' ∧ wpF P nt ops S H0 ms rest (putDst e d v) H' K) ⟨⟩)) := by
  simp only [wpF, wantedA, wantS, holdQ]
  simp
end
end Go.Proofs.Ytjaefngmidllgaa.AX
