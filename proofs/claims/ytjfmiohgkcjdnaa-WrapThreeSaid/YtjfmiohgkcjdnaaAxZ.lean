/- A plain reading of runs: a statement whose order is open, in which calls make rows beside what is read. -/
import Derived.Test.YtjfmiohgkcjdnaaAxY
namespace Go.Proofs.Ytjfmiohgkcjdnaa.AX
open Go Go.RowKit

def exX (P : Program) (H : AH) (f : FuncId) (args : List AV) (K : AV → AH → Prop) : Prop := ∃ v H1, AC P f args H (fun v' H' => v' = v ∧ H' = H1) ∧ Ext H H1 ∧ K v H1
theorem exX_mk {P : Program} {H : AH} {f : FuncId} {args : List AV} {K : AV → AH → Prop} {v : AV} {H1 : AH} (h : ∀ Q : AV → AH → Prop, Q v H1 → AC P f args H Q) (hE : Ext H H1) (hk : K v H1) : exX P H f args K := ⟨v, H1, h _ ⟨rfl, rfl⟩, hE, hk⟩
def wpX (P : Program) (nt : Nat) (ops : Array Oper) : List Oper → Env → AH → (Env → AH → Prop) → Prop
  | [], e, H, K => K e H
  | o :: rest, e, H, K =>
    wantS (wantedA ops e o)
      (dstOk nt o.dst = true ∧
        if isFnCall o.op then callS (opCall P (oval e) o.op) fun f args => exX P H f args fun v H' => wpX P nt ops rest (putDst e o.dst (some v)) H' K
        else resS (execN P (oval e) H o.op) fun v H' => wpX P nt ops rest (putDst e o.dst v) H' K)
      (wpX P nt ops rest (putDst e o.dst none) H K)

/-- What makes rows and leaves the others. -/
def isMk (o : Op) : Bool := isFnCall o || match o with | .buildSlice .. => true | _ => false
/-- A read that is in no order with a writing stands ahead of it, and what is written up to there is by calls, and by making rows, alone. -/
def drawX (ops : Array Oper) : Bool :=
  ordOK ops && (let ms := masks ops.toList []; ops.toList.zipIdx.all fun x => !isR x.1.op || ops.toList.zipIdx.all fun y => !isW y.1.op || anc ms x.2 y.2 || anc ms y.2 x.2 ||
    (decide (x.2 < y.2) && ops.toList.zipIdx.all fun z => !isW z.1.op || isMk z.1.op || decide (y.2 < z.2)))

section
variable {P : Program} {nt : Nat} {ops : Array Oper} {e : Env} {H : AH}

theorem build_ext {P : Program} {ρ : Operand → AV} {H H' : AH} {o : Op} {v : Option AV} (hk : isMk o = true) (hf : isFnCall o ≠ true) (h : execN P ρ H o = some (v, H')) : Ext H H' := by
  cases o with
  | buildSlice t n ps =>
    rw [x_buildSlice] at h
    unfold rowV at h
    split at h
    case h_2 => cases h
    split at h
    case h_2 => cases h
    split at h
    case isFalse => cases h
    obtain ⟨cells, -, h1⟩ := Option.map_eq_some_iff.1 h
    cases h1
    exact .push _ _
  | _ => first | (simp [isMk] at hk; exact absurd hk hf) | (simp [isMk] at hk)
theorem wpX_trace : ∀ {l : List Oper} {e : Env} {H : AH} {K : Env → AH → Prop}, wpX P nt ops l e H K → ∃ tr e' H', Trace P nt ops l e H tr e' H' ∧ (∀ (i : Nat) (o : Oper) (r : Rec), l[i]? = some o → tr[i]? = some r → isMk o.op = true → Ext r.H r.H') ∧ K e' H'
  | [], e, H, K, h => ⟨[], e, H, .nil _ _, by simp, h⟩
  | o :: rest, e, H, K, h => by
    simp only [wpX] at h
    have step : ∀ {tr : List Rec} {r0 : Rec}, (isMk o.op = true → Ext r0.H r0.H') → (∀ (i : Nat) (o : Oper) (r : Rec), rest[i]? = some o → tr[i]? = some r → isMk o.op = true → Ext r.H r.H') →
        ∀ (i : Nat) (o' : Oper) (r : Rec), (o :: rest)[i]? = some o' → (r0 :: tr)[i]? = some r → isMk o'.op = true → Ext r.H r.H' := by
      intro tr r0 h1 h2 i o' r ho hr hf
      cases i with
      | zero => simp at ho hr; subst ho; subst hr; exact h1 hf
      | succ i => exact h2 i o' r (by simpa using ho) (by simpa using hr) hf
    cases hw : wantedA ops e o with
    | none => rw [hw] at h; exact h.elim
    | some b =>
      rw [hw] at h
      cases b with
      | false =>
        obtain ⟨tr, e', H', h1, h2, h3⟩ := wpX_trace (h.2 rfl)
        exact ⟨_, e', H', .skip hw h1, step (fun _ => .refl _) h2, h3⟩
      | true =>
        obtain ⟨hd, h⟩ := h.1 rfl
        split at h
        · cases hc : opCall P (oval e) o.op with
          | none => rw [hc] at h; exact h.elim
          | some x =>
            obtain ⟨f, args⟩ := x
            rw [hc] at h
            obtain ⟨v, H1, hAC, hE, h⟩ := h
            obtain ⟨tr, e', H', h1, h2, h3⟩ := wpX_trace h
            exact ⟨_, e', H', .call hw hc hd hAC h1, step (fun _ => hE) h2, h3⟩
        · rename_i hnf
          cases hx : execN P (oval e) H o.op with
          | none => rw [hx] at h; exact h.elim
          | some x =>
            obtain ⟨v, H'⟩ := x
            rw [hx] at h
            obtain ⟨tr, e', H', h1, h2, h3⟩ := wpX_trace h
            exact ⟨_, e', H', .op hw hx hd h1, step (fun hf => build_ext hf hnf hx) h2, h3⟩

theorem takeKnown_len : ∀ {n : Nat} {l vs : List AV}, takeKnown n l = some vs → True := fun _ => trivial
theorem execN_ext {ρ : Operand → AV} {H H' : AH} {o : Op} {v : Option AV} (hR : isR o = true) (hE : Ext H H') (h : execN P ρ H o = some (v, H)) : execN P ρ H' o = some (v, H') := by
  have hldn : ∀ {r ver n p vs}, ldn H r ver n p = some vs → ldn H' r ver n p = some vs := by
    intro r ver n p vs h
    cases n with
    | zero => exact h
    | succ n =>
      simp only [ldn] at h ⊢
      split at h
      case h_2 => cases h
      rename_i cells v stale ro hr
      rw [hE.row hr]
      exact h
  cases o with
  | load t x =>
    have h : (aRead P ρ H (.load t x)).map (fun v => (some v, H)) = some (v, H) := h
    obtain ⟨u, hu, h1⟩ := Option.map_eq_some_iff.1 h
    show (aRead P ρ H' (.load t x)).map (fun v => (some v, H')) = some (v, H')
    have : aRead P ρ H' (.load t x) = some u := by
      simp only [aRead] at hu ⊢
      split at hu
      case h_3 => cases hu
      case h_2 =>
        obtain ⟨c, hg, hk⟩ := Option.bind_eq_some_iff.1 hu
        rw [hE.gv hg]
        exact hk
      split at hu
      · rename_i hd
        rw [if_pos hd]
        obtain ⟨vs, h2, rfl⟩ := Option.map_eq_some_iff.1 hu
        rw [hldn h2]; rfl
      · rename_i hd
        rw [if_neg hd]
        exact hE.ld hu
    rw [this]
    cases h1
    rfl
  | slice t x lo hi mx =>
    have h : (match aPure P ρ (.slice t x lo hi mx) with | some v => some (some v, H) | none => (aRead P ρ H (.slice t x lo hi mx)).map fun v => (some v, H)) = some (v, H) := h
    show (match aPure P ρ (.slice t x lo hi mx) with | some v => some (some v, H') | none => (aRead P ρ H' (.slice t x lo hi mx)).map fun v => (some v, H')) = some (v, H')
    split at h
    · cases h; rfl
    · obtain ⟨u, hu, h1⟩ := Option.map_eq_some_iff.1 h
      have : aRead P ρ H' (.slice t x lo hi mx) = some u := by
        simp only [aRead] at hu ⊢
        split at hu
        case h_3 => cases hu
        case h_2 =>
          split at hu
          case h_2 => cases hu
          rename_i hie hr
          rw [hE.row hr, hie]
          exact hu
        split at hu
        case h_2 => cases hu
        split at hu
        case isFalse => cases hu
        rename_i hc
        obtain ⟨y, hy⟩ := Option.isSome_iff_exists.1 hc.2.2.1
        have hs := congrArg Option.isSome (hE.ld hy)
        rw [if_pos ⟨hc.1, hc.2.1, hs, endOk_ext hE hc.2.2.2.1, hc.2.2.2.2⟩]
        exact hu
      rw [this]
      cases h1
      rfl
  | lookup t m x ok =>
    have h : (aLook P H t (ρ m) (ρ x) ok).map (fun v => (some v, H)) = some (v, H) := h
    obtain ⟨u, hu, h1⟩ := Option.map_eq_some_iff.1 h
    show (aLook P H' t (ρ m) (ρ x) ok).map (fun v => (some v, H')) = some (v, H')
    have : aLook P H' t (ρ m) (ρ x) ok = some u := by
      unfold aLook at hu ⊢
      split at hu
      case h_2 => cases hu
      split at hu
      case isFalse => cases hu
      rename_i hk
      rw [if_pos hk]
      split at hu
      · exact hu
      · obtain ⟨es, he, hu⟩ := Option.bind_eq_some_iff.1 hu
        have h2 := hE.row (mrow_some he)
        unfold mrow
        rw [h2]
        exact hu
      · cases hu
    rw [this]
    cases h1
    rfl
  | _ => simp [isR] at hR

/-- The region that comes first, its order open. -/
theorem L_regX (hm : P.follows .mixedOrders = true) {id : Nat} {l : List Oper} {cs : List Code} {Q : Ex → Env → AH → Prop} (ks : List Nat) (hs : drawX l.toArray = true) (h : ∀ K : Env → AH → Prop, (∀ e' H', AWL P nt cs e' H' Q → K e' H') → wpX P nt l.toArray l e H fun e H => K (ekeep ks e) H) :
    AWL P nt (.region id l.toArray true :: cs) e H Q := by
  obtain ⟨tr, e', H', hT, hX, hk⟩ := wpX_trace (h (fun e' H' => AWL P nt cs e' H' Q) fun e' H' h => h)
  simp only [drawX, Bool.and_eq_true, List.all_eq_true, Bool.or_eq_true, Bool.not_eq_true', decide_eq_true_eq] at hs
  refine AWL_cons (AW_draw hm ks hT ⟨hs.1, ?_⟩ hk)
  intro i j o p r s ho hp hri hsj hR hW hw h1 h2
  have mem : ∀ (i : Nat) (o : Oper), l.toArray[i]? = some o → (o, i) ∈ l.toArray.toList.zipIdx := by
    intro i o ho
    rw [List.mk_mem_zipIdx_iff_getElem?, Array.getElem?_toList]; exact ho
  rcases hs.2 _ (mem i o ho) with h3 | h3
  · rw [hR] at h3; cases h3
  rcases h3 _ (mem j p hp) with ((h4 | h4) | h4) | ⟨hij, hz⟩
  · rw [hW] at h4; cases h4
  · rw [h1] at h4; cases h4
  · rw [h2] at h4; cases h4
  have hij : i < j := hij
  have hlen := hT.length
  have hrowsAt : ∀ (k : Nat) (r : Rec), tr[k]? = some r → rowsAt tr H' k = r.H := fun k r hk => by simp [rowsAt, hk]
  have chain : ∀ d, i + d ≤ j + 1 → Ext (rowsAt tr H' i) (rowsAt tr H' (i + d)) := by
    intro d
    induction d with
    | zero => intro _; exact .refl _
    | succ d ih =>
      intro hd
      have hlt : i + d < tr.length := by
        have := (List.getElem?_eq_some_iff.1 hsj).1
        omega
      have hrk : tr[i + d]? = some tr[i + d] := List.getElem?_eq_getElem hlt
      have hok : l[i + d]? = some (l[i + d]'(by omega)) := List.getElem?_eq_getElem (by omega)
      have hstep : Ext (rowsAt tr H' (i + d)) (rowsAt tr H' (i + d + 1)) := by
        rw [hT.next _ _ hrk, hrowsAt _ _ hrk]
        cases hwz : isW (l[i + d]'(by omega)).op with
        | false =>
          rw [(hT.did _ _ _ hok hrk).same hwz]; exact .refl _
        | true =>
          rcases hz _ (mem (i + d) _ (by rw [List.getElem?_toArray]; exact hok)) with (h5 | h5) | h5
          · rw [hwz] at h5; cases h5
          · exact hX _ _ _ hok hrk h5
          · have : j < i + d := h5
            omega
      exact (ih (by omega)).trans hstep
  have hE1 := chain (j - i) (by omega)
  have hE2 := chain (j + 1 - i) (by omega)
  rw [show i + (j - i) = j by omega, hrowsAt _ _ hsj, hrowsAt _ _ hri] at hE1
  rw [show i + (j + 1 - i) = j + 1 by omega, hT.next _ _ hsj, hrowsAt _ _ hri] at hE2
  have hd := hT.did i o r (by simpa using ho) hri
  have hR' := isR_notW hR
  have hsame := hd.same hR'
  rcases hd with ⟨h3, -, -⟩ | ⟨-, -, h3⟩
  · rw [hw] at h3; cases h3
  · rcases h3 with h3 | ⟨f, args, v, h3, -⟩
    · rw [hsame] at h3
      exact ⟨execN_ext hR hE1 h3, execN_ext hR hE2 h3⟩
    · have := opCall_isW h3; rw [hR'] at this; cases this

@[congr] theorem c_wpX {l : List Oper} {e e' : Env} {H H' : AH} {K : Env → AH → Prop} (h : e = e') (h' : H = H') : wpX P nt ops l e H K = wpX P nt ops l e' H' K := by rw [h, h']
@[congr] theorem c_exX {f : FuncId} {as bs : List AV} {H H' : AH} {Q : AV → AH → Prop} (h : as = bs) (h' : H = H') : exX P H f as Q = exX P H' f bs Q := by rw [h, h']
@[simp] theorem xx_nil (K : Env → AH → Prop) : wpX P nt ops [] e H K = K e H := rfl
@[simp] theorem xx_consN (d : Option Tmp) (op : Op) (t : TypeId) (p : String) (af : Array Edge) (rest : List Oper) (K : Env → AH → Prop) : wpX P nt ops (⟨d, op, t, p, af, none⟩ :: rest) e H K =
      (dstOk nt d = true ∧
        if isFnCall op then callS (opCall P (oval e) op) fun f args => exX P H f args (holdQ (fun v H' => wpX P nt ops rest (putDst e d (some v)) H' K) ⟨⟩)
        else resS (execN P (oval e) H op) (holdQ (fun v H' => wpX P nt ops rest (putDst e d v) H' K) ⟨⟩)) := by
  simp only [wpX, wantedA, wantS, holdQ]
  simp
@[simp] theorem xx_consG (d : Option Tmp) (op : Op) (t : TypeId) (p : String) (af : Array Edge) (j : Nat) (want : Bool) (rest : List Oper) (K : Env → AH → Prop) : wpX P nt ops (⟨d, op, t, p, af, some (j, want)⟩ :: rest) e H K = wantS (guardVal (slotV e (slotOf ops j)) want)
      (dstOk nt d = true ∧
        if isFnCall op then callS (opCall P (oval e) op) fun f args => exX P H f args (holdQ (fun v H' => wpX P nt ops rest (putDst e d (some v)) H' K) ⟨⟩)
        else resS (execN P (oval e) H op) (holdQ (fun v H' => wpX P nt ops rest (putDst e d v) H' K) ⟨⟩))
      (wpX P nt ops rest (putDst e d none) H K) := by
  have : wantedA ops e ⟨d, op, t, p, af, some (j, want)⟩ = guardVal (slotV e (slotOf ops j)) want := by
    unfold wantedA guardVal slotOf slotV
    simp only []
    cases (ops[j]?).bind (·.dst) <;> rfl
  rw [wpX, this]
  rfl
end
end Go.Proofs.Ytjfmiohgkcjdnaa.AX
