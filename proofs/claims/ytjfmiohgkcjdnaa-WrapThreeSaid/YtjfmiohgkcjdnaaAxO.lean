/- A plain reading of runs: a statement whose order is open, in which calls make rows beside what is read, wherever the reading stands. -/
import Derived.Test.YtjfmiohgkcjdnaaAxZ
namespace Go.Proofs.Ytjfmiohgkcjdnaa.AX
open Go Go.RowKit

/-- The rows that an operation sees: what is read lay there when the statement began. -/
def rdH (o : Op) (H0 H : AH) : AH := if isR o then H0 else H
def bkH (o : Op) (H H' : AH) : AH := if isR o then H else H'
def wpY (P : Program) (nt : Nat) (ops : Array Oper) (H0 : AH) : List Oper → Env → AH → (Env → AH → Prop) → Prop
  | [], e, H, K => K e H
  | o :: rest, e, H, K =>
    wantS (wantedA ops e o)
      (dstOk nt o.dst = true ∧
        if isFnCall o.op then callS (opCall P (oval e) o.op) fun f args => exX P H f args fun v H' => wpY P nt ops H0 rest (putDst e o.dst (some v)) H' K
        else resS (execN P (oval e) (rdH o.op H0 H) o.op) fun v H' => wpY P nt ops H0 rest (putDst e o.dst v) (bkH o.op H H') K)
      (wpY P nt ops H0 rest (putDst e o.dst none) H K)

section
variable {P : Program} {nt : Nat} {ops : Array Oper} {e : Env} {H H0 : AH}

theorem wpY_trace : ∀ {l : List Oper} {e : Env} {H : AH} {K : Env → AH → Prop}, (∀ o ∈ l, isW o.op = true → isMk o.op = true) → Ext H0 H → wpY P nt ops H0 l e H K →
    ∃ tr e' H', Trace P nt ops l e H tr e' H' ∧ (∀ (i : Nat) (o : Oper) (r : Rec), l[i]? = some o → tr[i]? = some r → Ext H0 r.H ∧ Ext H0 r.H' ∧ (isR o.op = true → wantedA ops r.e o = some true → execN P (oval r.e) H0 o.op = some (r.v, H0))) ∧ K e' H'
  | [], e, H, K, _, _, h => ⟨[], e, H, .nil _ _, by simp, h⟩
  | o :: rest, e, H, K, hq, hE, h => by
    have hq' : ∀ o ∈ rest, isW o.op = true → isMk o.op = true := fun p hp => hq p (List.mem_cons_of_mem _ hp)
    simp only [wpY] at h
    have step : ∀ {tr : List Rec} {r0 : Rec}, (Ext H0 r0.H ∧ Ext H0 r0.H' ∧ (isR o.op = true → wantedA ops r0.e o = some true → execN P (oval r0.e) H0 o.op = some (r0.v, H0))) →
        (∀ (i : Nat) (o : Oper) (r : Rec), rest[i]? = some o → tr[i]? = some r → Ext H0 r.H ∧ Ext H0 r.H' ∧ (isR o.op = true → wantedA ops r.e o = some true → execN P (oval r.e) H0 o.op = some (r.v, H0))) →
        ∀ (i : Nat) (o' : Oper) (r : Rec), (o :: rest)[i]? = some o' → (r0 :: tr)[i]? = some r → Ext H0 r.H ∧ Ext H0 r.H' ∧ (isR o'.op = true → wantedA ops r.e o' = some true → execN P (oval r.e) H0 o'.op = some (r.v, H0)) := by
      intro tr r0 h1 h2 i o' r ho hr
      cases i with
      | zero => simp at ho hr; subst ho; subst hr; exact h1
      | succ i => exact h2 i o' r (by simpa using ho) (by simpa using hr)
    cases hw : wantedA ops e o with
    | none => rw [hw] at h; exact h.elim
    | some b =>
      rw [hw] at h
      cases b with
      | false =>
        obtain ⟨tr, e', H', h1, h2, h3⟩ := wpY_trace hq' hE (h.2 rfl)
        exact ⟨_, e', H', .skip hw h1, step ⟨hE, hE, fun _ h => by rw [hw] at h; cases h⟩ h2, h3⟩
      | true =>
        obtain ⟨hd, h⟩ := h.1 rfl
        split at h
        · rename_i hfn
          cases hc : opCall P (oval e) o.op with
          | none => rw [hc] at h; exact h.elim
          | some x =>
            obtain ⟨f, args⟩ := x
            rw [hc] at h
            obtain ⟨v, H1, hAC, hE1, h⟩ := h
            obtain ⟨tr, e', H', h1, h2, h3⟩ := wpY_trace hq' (hE.trans hE1) h
            refine ⟨_, e', H', .call hw hc hd hAC h1, step ⟨hE, hE.trans hE1, fun hR => ?_⟩ h2, h3⟩
            have := opCall_isW hc
            have := isR_notW hR
            simp_all
        · rename_i hnf
          cases hR : isR o.op with
          | true =>
            simp only [rdH, bkH, hR, if_true] at h
            cases hx : execN P (oval e) H0 o.op with
            | none => rw [hx] at h; exact h.elim
            | some x =>
              obtain ⟨v, H1⟩ := x
              have hH := execN_same (isR_notW hR) hx
              rw [hx] at h
              have hx' : execN P (oval e) H0 o.op = some (v, H0) := by rw [hx, hH]
              have h : wpY P nt ops H0 rest (putDst e o.dst v) H K := h
              obtain ⟨tr, e', H', h1, h2, h3⟩ := wpY_trace hq' hE h
              exact ⟨_, e', H', .op hw (execN_ext hR hE hx') hd h1, step ⟨hE, hE, fun _ _ => hx'⟩ h2, h3⟩
          | false =>
            simp only [rdH, bkH, hR, Bool.false_eq_true, if_false] at h
            cases hx : execN P (oval e) H o.op with
            | none => rw [hx] at h; exact h.elim
            | some x =>
              obtain ⟨v, H1⟩ := x
              have hE1 : Ext H H1 := by
                cases hW : isW o.op with
                | false => rw [execN_same hW hx]; exact .refl _
                | true => exact build_ext (hq o (by simp) hW) hnf hx
              rw [hx] at h
              have h : wpY P nt ops H0 rest (putDst e o.dst v) H1 K := h
              obtain ⟨tr, e', H', h1, h2, h3⟩ := wpY_trace hq' (hE.trans hE1) h
              exact ⟨_, e', H', .op hw hx hd h1, step ⟨hE, hE.trans hE1, fun h => by rw [hR] at h; cases h⟩ h2, h3⟩

/-- What is written is rows that are made. -/
def madeS (ops : Array Oper) : Bool := ordOK ops && ops.toList.all fun o => !isW o.op || isMk o.op
/-- The region that comes first, its order open; it writes by calls alone, which leave what is read as it was. -/
theorem L_regY (hm : P.follows .mixedOrders = true) {id : Nat} {l : List Oper} {cs : List Code} {Q : Ex → Env → AH → Prop} (ks : List Nat) (hs : madeS l.toArray = true)
    (h : ∀ K : Env → AH → Prop, (∀ e' H', AWL P nt cs e' H' Q → K e' H') → wpY P nt l.toArray H l e H fun e H => K (ekeep ks e) H) : AWL P nt (.region id l.toArray true :: cs) e H Q := by
  simp only [madeS, Bool.and_eq_true, List.all_eq_true, Bool.or_eq_true, Bool.not_eq_true'] at hs
  obtain ⟨tr, e', H', hT, hX, hk⟩ := wpY_trace (fun o ho hW => by rcases hs.2 o ho with h1 | h1; rw [hW] at h1; cases h1; exact h1) (.refl H) (h (fun e' H' => AWL P nt cs e' H' Q) fun e' H' h => h)
  refine AWL_cons (AW_draw hm ks hT ⟨hs.1, ?_⟩ hk)
  intro i j o p r s ho hp hri hsj hR hW hw h1 h2
  obtain ⟨-, -, g⟩ := hX i o r (by simpa using ho) hri
  obtain ⟨e1, e2, -⟩ := hX j p s (by simpa using hp) hsj
  have g := g hR hw
  exact ⟨execN_ext hR e1 g, execN_ext hR e2 g⟩

@[congr] theorem c_wpY {l : List Oper} {e e' : Env} {H H' : AH} {K : Env → AH → Prop} (h : e = e') (h' : H = H') : wpY P nt ops H0 l e H K = wpY P nt ops H0 l e' H' K := by rw [h, h']
@[simp] theorem y_nil (K : Env → AH → Prop) : wpY P nt ops H0 [] e H K = K e H := rfl
@[simp] theorem y_consN (d : Option Tmp) (op : Op) (t : TypeId) (p : String) (af : Array Edge) (rest : List Oper) (K : Env → AH → Prop) : wpY P nt ops H0 (⟨d, op, t, p, af, none⟩ :: rest) e H K =
      (dstOk nt d = true ∧
        if isFnCall op then callS (opCall P (oval e) op) fun f args => exX P H f args (holdQ (fun v H' => wpY P nt ops H0 rest (putDst e d (some v)) H' K) ⟨⟩)
        else resS (execN P (oval e) (rdH op H0 H) op) (holdQ (fun v H' => wpY P nt ops H0 rest (putDst e d v) (bkH op H H') K) ⟨⟩)) := by
  simp only [wpY, wantedA, wantS, holdQ]
  simp
@[simp] theorem y_consG (d : Option Tmp) (op : Op) (t : TypeId) (p : String) (af : Array Edge) (j : Nat) (want : Bool) (rest : List Oper) (K : Env → AH → Prop) : wpY P nt ops H0 (⟨d, op, t, p, af, some (j, want)⟩ :: rest) e H K = wantS (guardVal (slotV e (slotOf ops j)) want)
      (dstOk nt d = true ∧
        if isFnCall op then callS (opCall P (oval e) op) fun f args => exX P H f args (holdQ (fun v H' => wpY P nt ops H0 rest (putDst e d (some v)) H' K) ⟨⟩)
        else resS (execN P (oval e) (rdH op H0 H) op) (holdQ (fun v H' => wpY P nt ops H0 rest (putDst e d v) (bkH op H H') K) ⟨⟩))
      (wpY P nt ops H0 rest (putDst e d none) H K) := by
  have : wantedA ops e ⟨d, op, t, p, af, some (j, want)⟩ = guardVal (slotV e (slotOf ops j)) want := by
    unfold wantedA guardVal slotOf slotV
    simp only []
    cases (ops[j]?).bind (·.dst) <;> rfl
  rw [wpY, this]
  rfl
@[simp] theorem rd_buildS (t : TypeId) (n : Nat) (ps : Array (Nat × Operand)) : rdH (.buildSlice t n ps) H0 H = H := rfl
@[simp] theorem bk_buildS (t : TypeId) (n : Nat) (ps : Array (Nat × Operand)) : bkH (.buildSlice t n ps) H H0 = H0 := rfl
@[simp] theorem rd_load (t : TypeId) (x : Operand) : rdH (.load t x) H0 H = H0 := rfl
@[simp] theorem bk_load (t : TypeId) (x : Operand) : bkH (.load t x) H H0 = H := rfl
@[simp] theorem rd_slice (t : TypeId) (x : Operand) (a b c : Option Operand) : rdH (.slice t x a b c) H0 H = H0 := rfl
@[simp] theorem bk_slice (t : TypeId) (x : Operand) (a b c : Option Operand) : bkH (.slice t x a b c) H H0 = H := rfl
@[simp] theorem rd_move (x : Operand) : rdH (.move x) H0 H = H := rfl
@[simp] theorem bk_move (x : Operand) : bkH (.move x) H H0 = H0 := rfl
@[simp] theorem rd_assign (x : Operand) : rdH (.assign x) H0 H = H := rfl
@[simp] theorem bk_assign (x : Operand) : bkH (.assign x) H H0 = H0 := rfl
@[simp] theorem rd_pick (c a b : Operand) : rdH (.pick c a b) H0 H = H := rfl
@[simp] theorem bk_pick (c a b : Operand) : bkH (.pick c a b) H H0 = H0 := rfl
@[simp] theorem rd_build (t : TypeId) (ps : Array (Nat × Operand)) : rdH (.build t ps) H0 H = H := rfl
@[simp] theorem bk_build (t : TypeId) (ps : Array (Nat × Operand)) : bkH (.build t ps) H H0 = H0 := rfl
@[simp] theorem rd_binOp (op : BinOp) (t u : TypeId) (x y : Operand) : rdH (.binOp op t x y u) H0 H = H := rfl
@[simp] theorem bk_binOp (op : BinOp) (t u : TypeId) (x y : Operand) : bkH (.binOp op t x y u) H H0 = H0 := rfl
@[simp] theorem rd_unOp (op : UnOp) (t : TypeId) (x : Operand) : rdH (.unOp op t x) H0 H = H := rfl
@[simp] theorem bk_unOp (op : UnOp) (t : TypeId) (x : Operand) : bkH (.unOp op t x) H H0 = H0 := rfl
@[simp] theorem rd_convert (a b : TypeId) (x : Operand) : rdH (.convert a b x) H0 H = H := rfl
@[simp] theorem bk_convert (a b : TypeId) (x : Operand) : bkH (.convert a b x) H H0 = H0 := rfl
@[simp] theorem rd_fieldAddr (t : TypeId) (x : Operand) (f : Nat) : rdH (.fieldAddr t x f) H0 H = H := rfl
@[simp] theorem bk_fieldAddr (t : TypeId) (x : Operand) (f : Nat) : bkH (.fieldAddr t x f) H H0 = H0 := rfl
@[simp] theorem rd_field (t : TypeId) (x : Operand) (f : Nat) : rdH (.field t x f) H0 H = H := rfl
@[simp] theorem bk_field (t : TypeId) (x : Operand) (f : Nat) : bkH (.field t x f) H H0 = H0 := rfl
@[simp] theorem rd_indexAddr (t : TypeId) (x i : Operand) : rdH (.indexAddr t x i) H0 H = H := rfl
@[simp] theorem bk_indexAddr (t : TypeId) (x i : Operand) : bkH (.indexAddr t x i) H H0 = H0 := rfl
@[simp] theorem rd_index (t : TypeId) (x i : Operand) : rdH (.index t x i) H0 H = H := rfl
@[simp] theorem bk_index (t : TypeId) (x i : Operand) : bkH (.index t x i) H H0 = H0 := rfl
@[simp] theorem rd_extract (x : Operand) (i : Nat) : rdH (.extract x i) H0 H = H := rfl
@[simp] theorem bk_extract (x : Operand) (i : Nat) : bkH (.extract x i) H H0 = H0 := rfl
@[simp] theorem rd_len (as : Array Operand) (ts : Array TypeId) : rdH (.call ⟨.builtin .len, as, ts⟩) H0 H = H := rfl
@[simp] theorem bk_len (as : Array Operand) (ts : Array TypeId) : bkH (.call ⟨.builtin .len, as, ts⟩) H H0 = H0 := rfl
@[simp] theorem rd_mkFunc (f : Fn) (a b : Array Operand) : rdH (.makeFunc f a b) H0 H = H := rfl
@[simp] theorem bk_mkFunc (f : Fn) (a b : Array Operand) : bkH (.makeFunc f a b) H H0 = H0 := rfl
@[simp] theorem rd_mkIface (t : TypeId) (x : Operand) : rdH (.makeInterface t x) H0 H = H := rfl
@[simp] theorem bk_mkIface (t : TypeId) (x : Operand) : bkH (.makeInterface t x) H H0 = H0 := rfl
@[simp] theorem rd_nilCheck (x : Operand) : rdH (.nilCheck x) H0 H = H := rfl
@[simp] theorem bk_nilCheck (x : Operand) : bkH (.nilCheck x) H H0 = H0 := rfl
end

/-! ### Slices whose elements have some cells each -/
def Rs (k : Nat) (H : AH) (v : AV) (l : List (List AV)) : Prop :=
  ∃ r off ver sz full, v = .slice r off l.length ver sz full ∧ ∀ i (h : i < l.length), ∃ r', r = some r' ∧ sz = k ∧ ldn H r' ver k (off + i * k) = some l[i]
theorem Rs.nil (k : Nat) (H : AH) : Rs k H (.slice none 0 0 0 1 false) [] := ⟨none, 0, 0, 1, false, rfl, fun i h => by simp at h⟩
theorem ldn_ext {H H' : AH} (hE : Ext H H') {r ver n p : Nat} {vs : List AV} (h : ldn H r ver n p = some vs) : ldn H' r ver n p = some vs := by
  cases n with
  | zero => exact h
  | succ n =>
    simp only [ldn] at h ⊢
    split at h
    case h_2 => cases h
    rename_i cells v stale ro hr
    rw [hE.row hr]
    exact h
theorem Rs.ext {k : Nat} {H H1 : AH} {u : AV} {l : List (List AV)} (h : Rs k H u l) (hE : Ext H H1) : Rs k H1 u l := by
  obtain ⟨r, off, ver, sz, full, rfl, hl⟩ := h
  refine ⟨r, off, ver, sz, full, rfl, fun i hi => ?_⟩
  obtain ⟨r', h1, h2, h3⟩ := hl i hi
  exact ⟨r', h1, h2, ldn_ext hE h3⟩
theorem takeKnown_row : ∀ {l : List AV}, (∀ v ∈ l, v ≠ .undef) → ∀ (rest : List AV), takeKnown l.length (l ++ rest) = some l
  | [], _, _ => rfl
  | v :: l, h, rest => by
    have := takeKnown_row (l := l) (fun x hx => h x (by simp [hx])) rest
    have hv := h v (by simp)
    rw [List.length_cons, takeKnown_succ]
    simp only [List.cons_append, List.getElem?_cons_zero, List.drop_succ_cons, List.drop_zero, this]
    cases v <;> first | rfl | exact absurd rfl hv
theorem ldn_row {H : AH} {r ver n p s : Nat} {c : List AV} {ro : Bool} (hr : H[r]? = some (.row c ver s ro)) : ldn H r ver n p = takeKnown n (c.drop p) := by
  cases n with
  | zero => simp [ldn, takeKnown]
  | succ n => simp [ldn, hr]
theorem takeKnown_part : ∀ {m : Nat} {l vs : List AV}, takeKnown m l = some vs → vs.length = m ∧ ∀ a b, a + b ≤ m → takeKnown b (l.drop a) = some ((vs.drop a).take b) := by
  intro m
  induction m with
  | zero =>
    intro l vs h
    simp [takeKnown] at h
    subst h
    refine ⟨rfl, fun a b hab => ?_⟩
    have : b = 0 := by omega
    subst this
    simp [takeKnown]
  | succ m ih =>
    intro l vs h
    rw [takeKnown_succ] at h
    simp only [Option.bind_eq_some_iff, Option.map_eq_some_iff] at h
    obtain ⟨v, hv, vs', h', rfl⟩ := h
    obtain ⟨h1, h2⟩ := ih h'
    refine ⟨by simp [h1], fun a b hab => ?_⟩
    cases a with
    | succ a =>
      have := h2 a b (by omega)
      rw [List.drop_drop, Nat.add_comm] at this
      simpa using this
    | zero =>
      cases b with
      | zero => simp [takeKnown]
      | succ b =>
        have := h2 0 b (by omega)
        rw [List.drop_zero, List.drop_zero] at this
        rw [List.drop_zero, takeKnown_succ, hv, this]
        simp
theorem ldn_part {H : AH} {r ver m p : Nat} {vs : List AV} (h : ldn H r ver m p = some vs) : vs.length = m ∧ ∀ a b, a + b ≤ m → ldn H r ver b (p + a) = some ((vs.drop a).take b) := by
  cases m with
  | zero =>
    simp [ldn] at h
    subst h
    refine ⟨rfl, fun a b hab => ?_⟩
    have : b = 0 := by omega
    subst this
    simp [ldn]
  | succ m =>
    simp only [ldn] at h
    split at h
    case h_2 => cases h
    rename_i cells v stale ro hr
    split at h
    case isFalse => cases h
    rename_i hc
    obtain ⟨h1, h2⟩ := takeKnown_part h
    refine ⟨h1, fun a b hab => ?_⟩
    have := h2 a b hab
    rw [List.drop_drop] at this
    cases b with
    | zero => simp [ldn]
    | succ b =>
      simp only [ldn, hr]
      rw [if_pos (by omega)]
      exact this
/-- A type that is loaded as a whole. -/
def aggSz (P : Program) (t : TypeId) : Option Nat := match P.underlying t, P.info? t with | some d, some i => if isAggD d then some i.size else none | _, _ => none
theorem load_agg {P : Program} {t : TypeId} {n : Nat} (h : aggSz P t = some n) (H : AH) (r off ver : Nat) : loadV P t H (.ptr r off ver) = (ldn H r ver n off).map .agg := by
  unfold aggSz at h
  split at h
  case h_2 => cases h
  rename_i d i hd hi
  split at h
  case isFalse => cases h
  rename_i ha
  cases h
  simp [loadV, hd, hi, ha]
theorem load_gagg {P : Program} {t : TypeId} {n : Nat} (h : aggSz P t = some n) (H : AH) (g off : Nat) : loadV P t H (.gptr g off) = (gfind H g).bind fun cells => (takeKnown n (cells.drop off)).map .agg := by
  unfold aggSz at h
  split at h
  case h_2 => cases h
  rename_i d i hd hi
  split at h
  case isFalse => cases h
  rename_i ha
  cases h
  simp [loadV, hd, hi, ha]
/-- A struct's or an array's row is written as a whole. -/
theorem store_agg {P : Program} {t : TypeId} {n : Nat} (h : aggSz P t = some n) {H : AH} {r ver s : Nat} {c vs : List AV} (hr : H[r]? = some (.row c ver s false)) (hn : n ≠ 0) (hc : c.length = n) (hk : ∀ v ∈ c, v ≠ .undef) (hl : vs.length = n) (ho : ∀ v ∈ vs, v.one = true) :
    storeV P t H (.ptr r 0 ver) (.agg vs) = some (none, H.set r (.row vs ver 0 false)) := by
  unfold aggSz at h
  split at h
  case h_2 => cases h
  rename_i d i hd hi
  split at h
  case isFalse => cases h
  cases h
  cases vs with
  | nil => simp at hl; omega
  | cons v vs =>
    have ht : (takeKnown (v :: vs).length (c.drop 0)).isSome = true := by
      rw [List.drop_zero, hl, ← hc]
      have := takeKnown_row hk []
      rw [List.append_nil] at this
      rw [this]; rfl
    have hall : (v :: vs).all AV.one = true := by simpa using ho
    have hst : stn H r ver (v :: vs) 0 = some (H.set r (.row (v :: vs) ver 0 false)) := by
      simp only [stn, hr, ht, hall, and_self, if_true, List.take_zero, List.nil_append, Nat.zero_add, Nat.min_zero]
      rw [List.drop_of_length_le (by rw [hc, hl]; exact Nat.le_refl _), List.append_nil]
    have hlen : ((v :: vs).length != i.size) = false := by rw [hl]; simp
    simp only [storeV, hi, acells, AV.isU, Bool.false_or, hlen, Bool.false_eq_true, if_false, hst, Option.map_some]
/-- A struct's field. -/
def fldOff (P : Program) (t : TypeId) (f : Nat) : Option Nat := match P.underlying t with
  | some (.struct fields) => (fields[f]?).bind fun f => (P.info? f.type).bind fun i => if i.size = 0 then none else some f.offset
  | _ => none
theorem fld_ptr {P : Program} {t : TypeId} {f o : Nat} (h : fldOff P t f = some o) (r off ver : Nat) : aFieldAddr P t (.ptr r off ver) f = some (.ptr r (off + o) ver) := by
  unfold fldOff at h
  split at h
  case h_2 => cases h
  rename_i fields hu
  obtain ⟨fd, h1, h⟩ := Option.bind_eq_some_iff.1 h
  obtain ⟨i, h2, h⟩ := Option.bind_eq_some_iff.1 h
  split at h
  · cases h
  rename_i h0
  cases h
  simp [aFieldAddr, hu, h1, h2, h0]
/-- What only makes rows that its result does not name leaves the rows as they were. -/
theorem AC.quiet {P : Program} {f : FuncId} {args : List AV} {H : AH} {v : AV} (hb : belB H.length 4 v = true) (h : ∀ Q : AV → AH → Prop, (∀ H', Ext H H' → Q v H') → AC P f args H Q) (Q : AV → AH → Prop) (hq : Q v H) : AC P f args H Q := by
  refine AC_fin (h _ fun H' hE => ?_)
  refine ⟨⟨hE.1, fun r o hr ho => .inl (by rw [← hE.2 r hr]; exact ho)⟩, ?_⟩
  have ht : H'.take H.length = H := by
    obtain ⟨T, rfl⟩ := hE.app
    simp
  have hf : finish H.length H' v = (v, H) := by unfold finish; rw [if_pos hb, ht]
  rw [hf]; exact hq
theorem belB_int (N n : Nat) (k : IntKind) (i : Int) : belB N n (.int k i) = true := by cases n <;> rfl
theorem belB_bool (N n : Nat) (b : Bool) : belB N n (.bool b) = true := by cases n <;> rfl
theorem belB_two (N n : Nat) (k k' : IntKind) (i j : Int) : belB N (n + 1) (.agg [.int k i, .int k' j]) = true := by simp [belB, belB_int]
/-- A result that lies in a cell. -/
theorem res_cell {P : Program} {fn : Func} {e : Env} {H : AH} {b : Tmp} {t : TypeId} {v : AV} (hr : fn.results = #[.cell b t]) (hv : loadV P t H (eget e b) = some v) : aResults P fn e H = some v := by
  have h1 : aRes1 P e H (.cell b t) = some v := hv
  simp [aResults, hr, aResList, h1]
theorem noSlice {P : Program} {t : TypeId} {n z : Nat} (h : arSz P t = some (n, z)) (r off ver : Nat) (lo hi mx : Option AV) : aSlice P t (.ptr r off ver) lo hi mx = none := by
  unfold arSz at h
  split at h
  case h_2 => cases h
  rename_i n' e hu
  simp [aSlice, hu]
/-- A part of an array behind a pointer. -/
theorem slice_arr {P : Program} {t : TypeId} {n z : Nat} (h : arSz P t = some (n, z)) (hn : 0 < n) (hz : 0 < z) {H : AH} {r ver s : Nat} {c : List AV} {ro : Bool} {k : IntKind} {m : Nat} (hr : H[r]? = some (.row c ver s ro)) (hc : c.length = n * z) (hk : ∀ v ∈ c, v ≠ .undef) (hm : m ≤ n) :
    sliceR P t H (.ptr r 0 ver) none (some (.int k (m : Int))) none = some (.slice (some r) 0 m ver z false) := by
  unfold arSz at h
  split at h
  case h_2 => cases h
  rename_i n' e hu
  obtain ⟨ie, hie, h⟩ := Option.map_eq_some_iff.1 h
  cases h
  have hmul : 0 < n * ie.size := Nat.mul_pos hn hz
  have h2 : (ld H r (n * ie.size - 1) ver).isSome = true := by
    rw [ld_row hr]
    have hlt : n * ie.size - 1 < c.length := by omega
    rw [List.getElem?_eq_getElem hlt]
    have := hk _ (List.getElem_mem hlt)
    generalize c[n * ie.size - 1] = v at this
    cases v <;> first | rfl | exact absurd rfl this
  have h3 : endOk H r (n * ie.size) = true := by simp [endOk, hr, hc]
  simp [sliceR, hu, hie, hn, hz, h2, h3, aBounds, aBound, hm]
/-- A struct of two ints. -/
def pairT (P : Program) (t : TypeId) : Bool := match P.underlying t with
  | some (.struct fs) => match fs.toList with
    | [f, g] => !P.stoodInHeld t && (f.name != "_" && (g.name != "_" && (Nat.beq f.offset 0 && (Nat.beq g.offset 1 && ((match P.underlying f.type with | some (.int _) => true | _ => false) && ((match P.underlying g.type with | some (.int _) => true | _ => false) && !P.eqGuardType P.depth t))))))
    | _ => false
  | _ => false
theorem pair_eq {P : Program} {t : TypeId} (h : pairT P t = true) (a b c d : Int) : eqV P 4 t (.agg [.int .i64 a, .int .i64 b]) (.agg [.int .i64 c, .int .i64 d]) = some (a == c && b == d) ∧ P.eqGuardType P.depth t = false := by
  unfold pairT at h
  split at h
  case h_2 => cases h
  rename_i fs hu
  split at h
  case h_2 => cases h
  rename_i f g hfs
  simp only [Bool.and_eq_true, Bool.not_eq_true', bne_iff_ne, ne_eq] at h
  obtain ⟨h1, h2, h3, h4, h5, h6, h7, h8⟩ := h
  have h4 := Nat.eq_of_beq_eq_true h4
  have h5 := Nat.eq_of_beq_eq_true h5
  split at h6
  case h_2 => cases h6
  rename_i k hk
  split at h7
  case h_2 => cases h7
  rename_i k' hk'
  refine ⟨?_, h8⟩
  obtain ⟨i1, hi1⟩ := info_of_underlying hk
  obtain ⟨i2, hi2⟩ := info_of_underlying hk'
  have p1 : ∀ x y : Int, aPart P f.type [.int .i64 x, .int .i64 y] f.offset = some (.int .i64 x) := fun x y => by simp [aPart, hk, hi1, isAggD, h4]
  have p2 : ∀ x y : Int, aPart P g.type [.int .i64 x, .int .i64 y] g.offset = some (.int .i64 y) := fun x y => by simp [aPart, hk', hi2, isAggD, h5]
  simp only [eqV, hu, h1, hfs, List.any_cons, List.any_nil, List.map_cons, List.map_nil, p1, p2, eqAll, hk, hk']
  cases hac : (a == c) <;> cases hbd : (b == d) <;> simp [h2, h3]
theorem b_eqP {P : Program} {t : TypeId} (h : pairT P t = true) (l : Bool) (a b c d : Int) : binV P .eql t l (.agg [.int .i64 a, .int .i64 b]) (.agg [.int .i64 c, .int .i64 d]) = some (.bool (a == c && b == d)) := by
  obtain ⟨h1, h2⟩ := pair_eq h a b c d
  simp [binV, aBin, aCmp, aEqA, h1, h2]
theorem b_neP {P : Program} {t : TypeId} (h : pairT P t = true) (l : Bool) (a b c d : Int) : binV P .neq t l (.agg [.int .i64 a, .int .i64 b]) (.agg [.int .i64 c, .int .i64 d]) = some (.bool (!(a == c && b == d))) := by
  obtain ⟨h1, h2⟩ := pair_eq h a b c d
  simp [binV, aBin, aCmp, aEqA, h1, h2]
def zeroT (P : Program) (t : TypeId) : Option (List AV) := (tiOf P t).map (·.zero)
theorem zeroT_some {P : Program} {t : TypeId} {z : List AV} (h : zeroT P t = some z) : ∃ I, tiOf P t = some I ∧ I.zero = z := by
  unfold zeroT at h
  exact Option.map_eq_some_iff.1 h
theorem alloc_z {P : Program} {t : TypeId} {z : List AV} {H : AH} (h : zeroT P t = some z) : ((tiOf P t).map fun I => ((some (AV.ptr H.length 0 0) : Option AV), H ++ [AObj.row I.zero 0 0 false])) = some (some (.ptr H.length 0 0), H ++ [.row z 0 0 false]) := by
  unfold zeroT at h
  cases ht : tiOf P t with
  | none => rw [ht] at h; cases h
  | some I => rw [ht] at h; simp at h; simp [h]
/-! ### Slices of the call's own whose elements have some cells each -/
def elK (P : Program) (t : TypeId) (k : Nat) : Bool := match P.underlying t with
  | some (.slice e) => match tiOf P e with | some I => I.size == k && decide (I.bytes ≤ 4096) && decide (0 < k) && decide (k ≤ 64) | none => false
  | _ => false
theorem elK_some {P : Program} {t : TypeId} {k : Nat} (h : elK P t k = true) : ∃ e I, P.underlying t = some (.slice e) ∧ tiOf P e = some I ∧ I.size = k ∧ I.bytes ≤ 4096 ∧ 0 < k ∧ k ≤ 64 := by
  unfold elK at h
  split at h
  · rename_i e he
    split at h
    · rename_i I hI
      simp at h
      exact ⟨e, I, he, hI, h.1.1.1, h.1.1.2, h.1.2, h.2⟩
    · cases h
  · cases h
def rowsOk (k : Nat) (l : List (List AV)) : Prop := ∀ x ∈ l, x.length = k ∧ ∀ v ∈ x, v.one = true
theorem one_known {v : AV} (h : v.one = true) : v ≠ .undef := by rintro rfl; simp [AV.one] at h
theorem flat_len {k : Nat} : ∀ {l : List (List AV)}, rowsOk k l → l.flatten.length = l.length * k
  | [], _ => by simp
  | x :: l, h => by
    have := flat_len (l := l) (fun y hy => h y (by simp [hy]))
    rw [List.flatten_cons, List.length_append, (h x (by simp)).1, this, List.length_cons, Nat.add_mul]
    omega
theorem flat_get {k : Nat} : ∀ {l : List (List AV)}, rowsOk k l → ∀ i (hi : i < l.length), takeKnown k (l.flatten.drop (i * k)) = some l[i]
  | [], _, i, hi => by simp at hi
  | x :: l, h, i, hi => by
    have hx := h x (by simp)
    cases i with
    | zero =>
      have := takeKnown_row (l := x) (fun v hv => one_known (hx.2 v hv)) l.flatten
      rw [hx.1] at this
      simpa using this
    | succ i =>
      have := flat_get (l := l) (fun y hy => h y (by simp [hy])) i (by simpa using hi)
      rw [List.flatten_cons, show (i + 1) * k = x.length + i * k by rw [hx.1, Nat.add_mul]; omega, List.drop_append, List.drop_of_length_le (by omega), List.nil_append]
      simpa using this
def OwnK (k N : Nat) (H : AH) (v : AV) (l : List (List AV)) : Prop :=
  rowsOk k l ∧ ((l = [] ∧ v = .slice none 0 0 0 1 false) ∨ ∃ r ver stale, N ≤ r ∧ v = .slice (some r) 0 l.length ver k false ∧ H[r]? = some (.row l.flatten ver stale false))
theorem OwnK.nil (k N : Nat) (H : AH) : OwnK k N H (.slice none 0 0 0 1 false) [] := ⟨fun _ hx => (by cases hx), .inl ⟨rfl, rfl⟩⟩
theorem OwnK.rs {k N : Nat} {H : AH} {v : AV} {l : List (List AV)} (h : OwnK k N H v l) : Rs k H v l := by
  obtain ⟨h0, h | ⟨r, ver, stale, -, rfl, hr⟩⟩ := h
  · obtain ⟨rfl, rfl⟩ := h
    exact Rs.nil k H
  · refine ⟨some r, 0, ver, k, false, rfl, fun i hi => ⟨r, rfl, rfl, ?_⟩⟩
    rw [ldn_row hr, Nat.zero_add]
    exact flat_get h0 i hi
theorem OwnK.ext {k N : Nat} {H H1 : AH} {v : AV} {l : List (List AV)} (h : OwnK k N H v l) (hE : Ext H H1) : OwnK k N H1 v l := by
  obtain ⟨h0, h | ⟨r, ver, stale, h1, rfl, hr⟩⟩ := h
  · exact ⟨h0, .inl h⟩
  · exact ⟨h0, .inr ⟨r, ver, stale, h1, rfl, hE.row hr⟩⟩
theorem OwnK.len {k N : Nat} {H : AH} {v : AV} {l : List (List AV)} (h : OwnK k N H v l) : ∃ r ver sz, v = .slice r 0 l.length ver sz false := by
  obtain ⟨-, h | ⟨r, ver, stale, -, rfl, -⟩⟩ := h
  · obtain ⟨rfl, rfl⟩ := h; exact ⟨none, 0, 1, rfl⟩
  · exact ⟨some r, ver, k, rfl⟩
theorem ownK_append {P : Program} {k : Nat} {H H0 : AH} (hE : Ext H0 H) {t u : TypeId} (ht : elK P t k = true) (hu : elK P u k = true) {v : AV} {x : List AV} {l : List (List AV)} {m : Nat} (ho : OwnK k H0.length H v l) (hxl : x.length = k) (hx : ∀ v ∈ x, v.one = true) (hlen : l.length < 16777216) :
    ∃ v' H', aAppend P (H ++ [.row x 0 m false]) t u v (.slice (some H.length) 0 1 0 k false) = some (v', H') ∧ OwnK k H0.length H' v' (l ++ [x]) ∧ Ext H0 H' := by
  obtain ⟨e, I, h1, h2, h3, h4, hk0, -⟩ := elK_some ht
  obtain ⟨e', I', g1, -⟩ := elK_some hu
  have hle := hE.1
  have hkn : takeKnown k x = some x := by
    have := takeKnown_row (l := x) (fun v hv => one_known (hx v hv)) []
    rwa [List.append_nil, hxl] at this
  have hsrc : aSrc P (H ++ [.row x 0 m false]) u k (.slice (some H.length) 0 1 0 k false) = some (1, x) := by
    have : ldn (H ++ [AObj.row x 0 m false]) H.length 0 (1 * k) 0 = some x := by
      rw [ldn_row (c := x) (s := m) (ro := false) (by simp), Nat.one_mul, List.drop_zero, hkn]
    simp only [aSrc, g1, this, true_and, Nat.zero_lt_one, if_true, Option.map_some]
  have hall : x.all AV.one = true := by simpa using hx
  obtain ⟨hrows, ho⟩ := ho
  have hrows' : rowsOk k (l ++ [x]) := by
    intro y hy
    rcases List.mem_append.1 hy with hy | hy
    · exact hrows y hy
    · simp at hy; subst hy; exact ⟨hxl, hx⟩
  unfold aAppend
  rcases ho with ⟨rfl, rfl⟩ | ⟨r, ver, stale, hr0, rfl, hr⟩
  · refine ⟨.slice (some (H.length + 1)) 0 1 0 k false, H ++ [.row x 0 m false] ++ [.row x 0 0 false], ?_, ⟨hrows', .inr ⟨H.length + 1, 0, 0, by omega, by simp, by simp⟩⟩, ?_⟩
    · simp [h1, h2, h3, h4, hsrc, hxl, hk0]
      exact hx
    · rw [List.append_assoc]; exact hE.trans (.push _ _)
  · have hlt : r < H.length := (List.getElem?_eq_some_iff.1 hr).1
    have hr' : (H ++ [AObj.row x 0 m false])[r]? = some (.row l.flatten ver stale false) := by rw [List.getElem?_append_left hlt]; exact hr
    have hfl := flat_len hrows
    refine ⟨.slice (some r) 0 (l.length + 1) (ver + 1) k false, (H ++ [AObj.row x 0 m false]).set r (AObj.row (l.flatten ++ x) (ver + 1) (min stale (l.length * k)) false), ?_, ⟨hrows', .inr ⟨r, ver + 1, min stale (l.length * k), hr0, by simp, ?_⟩⟩, ?_⟩
    · have hle' : l.length + 1 ≤ 16777216 := hlen
      have hin : inPlace (H ++ [AObj.row x 0 m false]) r 0 l.length 1 ver k x = none := by
        simp only [inPlace, hr']
        rw [if_neg]
        rintro ⟨-, h5⟩
        rw [hfl, Nat.add_mul] at h5
        omega
      have hgr : grow (H ++ [AObj.row x 0 m false]) r 0 (l.length * k) ver x = some ((H ++ [AObj.row x 0 m false]).set r (AObj.row (l.flatten ++ x) (ver + 1) (min stale (l.length * k)) false), ver + 1) := by
        simp only [grow, hr']
        rw [if_pos ⟨trivial, by omega, .inl trivial⟩]
        simp only [List.replicate_zero, List.nil_append, List.drop_zero, Nat.zero_add, List.take_of_length_le (Nat.le_of_eq hfl)]
      simp only [h1, h2, h3, hsrc, hall, hxl, hin, hgr, Option.bind_some, Option.map_some]
      simp [hk0, h4, hle']
    · rw [List.getElem?_set]
      simp; omega
    · exact (hE.trans (.push _ _)).set _ hr0
/-! ### The lesser and the greater one -/
@[simp] theorem x_min2 {P : Program} {ρ : Operand → AV} {H : AH} (x y : Operand) (ts : Array TypeId) : execN P ρ H (.call ⟨.builtin .min, #[x, y], ts⟩) = val1 H (aMin [ρ x, ρ y]) := by rw [← map_val1]; rfl
@[simp] theorem x_max2 {P : Program} {ρ : Operand → AV} {H : AH} (x y : Operand) (ts : Array TypeId) : execN P ρ H (.call ⟨.builtin .max, #[x, y], ts⟩) = val1 H (aMax [ρ x, ρ y]) := by rw [← map_val1]; rfl
@[simp] theorem min_int (k k' : IntKind) (a b : Int) : aMin [.int k a, .int k' b] = some (.int k (min a b)) := by
  simp only [aMin, aMinFrom]
  congr 2
  omega
@[simp] theorem max_int (k k' : IntKind) (a b : Int) : aMax [.int k a, .int k' b] = some (.int k (max a b)) := by
  simp only [aMax, aMaxFrom]
  congr 2
  omega
/-! ### Two ways that meet again -/
section
variable {P : Program} {nt : Nat} {e : Env} {H : AH}
theorem AW.keepE (ks : List Nat) {c : Code} {Q : Ex → Env → AH → Prop} (h : AW P nt c (ekeep ks e) H Q) : AW P nt c e H Q := fun ro base w0 σ w a ho S hr => h ro base w0 σ w a ho S (hr.keep ks)
theorem AWL_keep (ks : List Nat) : ∀ {cs : List Code} {Q : Ex → Env → AH → Prop}, (∀ e', Q .normal (ekeep ks e') H → Q .normal e' H) → AWL P nt cs (ekeep ks e) H Q → AWL P nt cs e H Q
  | [], _, hq, h => hq e h
  | _ :: _, _, _, h => AW.keepE ks h
/-- After a condition both ways go on alike. -/
theorem L_condK {x : Operand} {c d c2 : Code} {t : Bool} {cs : List Code} {Q : Ex → Env → AH → Prop} (ks : List Nat) (R : Env → AH → Prop) (hc : oval e x = .bool t)
    (h1 : t = true → AWL P nt (flat c) e H fun y e' H' => match y with | .normal => R (ekeep ks e') H' | y => Q y e' H') (h2 : t = false → AWL P nt (flat d) e H fun y e' H' => match y with | .normal => R (ekeep ks e') H' | y => Q y e' H')
    (hout : ∀ e' H', R e' H' → AWL P nt (c2 :: cs) e' H' Q) : AWL P nt (.cond x c d :: c2 :: cs) e H Q := by
  refine AWL_cons ((AW_cond_split hc (fun h => AW_of_flat (h1 h)) (fun h => AW_of_flat (h2 h))).mono fun y e' H' hy => ?_)
  cases y with
  | normal => exact AW.keepE ks (hout _ _ hy)
  | exit i => exact hy
  | goto i => exact hy
  | ret => exact hy
end
end Go.Proofs.Ytjfmiohgkcjdnaa.AX
