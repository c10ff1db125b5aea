/- A plain reading of runs: rows are read, written, made and grown. -/
import Derived.Test.YtjfmiohgkcjdnaaAxA
import Derived.Deep.AppendSrc
import Derived.Deep.MidRow
namespace Go.Proofs.Ytjfmiohgkcjdnaa.AX
open Go Go.RowKit

def AV.one : AV → Bool
  | .agg _ | .tuple _ | .undef => false
  | _ => true

theorem RelV.oneCell {σ : Inj} {v : AV} {c : Value} (h : RelV σ v c) (h1 : v.one = true) : c.oneCell' = true := by
  cases h <;> first | rfl | (simp [AV.one] at h1)

theorem RelV.clipped {σ : Inj} {r off len ver sz : Nat} {c : Value} (h : RelV σ (.clip r off len ver sz) c) : ∃ (b o n : Nat) (sp : Option Nat) (d : Int), c = .slice (some ⟨b, o, sp⟩) len len ∧ σ.fam b = some (r, d, n) ∧ ver ≤ σ.ver r ∧ (ver = σ.ver r → b = σ.canon r) ∧
    (len ≠ 0 → (o : Int) = d + off ∧ o + len * sz ≤ n ∧ sp = none) := by
  cases h with
  | clip hf hv hc ho => exact ⟨_, _, _, _, _, rfl, hf, hv, hc, ho⟩

theorem RelVs.get {σ : Inj} : ∀ {vs : List AV} {cs : List Value}, RelVs σ vs cs → ∀ {q : Nat} {x : AV}, vs[q]? = some x → ∃ c, cs[q]? = some c ∧ RelV σ x c
  | _, _, .nil, q, x, h => by simp at h
  | _, _, .cons h1 h2, 0, x, h => by simp at h; subst h; exact ⟨_, by simp, h1⟩
  | _, _, .cons h1 h2, q + 1, x, h => by simpa using RelVs.get h2 (q := q) (by simpa using h)
theorem RelVs.length {σ : Inj} : ∀ {vs : List AV} {cs : List Value}, RelVs σ vs cs → vs.length = cs.length
  | _, _, .nil => rfl
  | _, _, .cons h1 h2 => by simp [RelVs.length h2]
theorem RelVs.append {σ : Inj} : ∀ {vs : List AV} {cs : List Value} {vs' : List AV} {cs' : List Value}, RelVs σ vs cs → RelVs σ vs' cs' → RelVs σ (vs ++ vs') (cs ++ cs')
  | _, _, _, _, .nil, h => h
  | _, _, _, _, .cons h1 h2, h => .cons h1 (RelVs.append h2 h)
theorem RelVs.one {σ : Inj} : ∀ {vs : List AV} {cs : List Value}, RelVs σ vs cs → (∀ v ∈ vs, v.one = true) → ∀ c ∈ cs, c.oneCell' = true
  | _, _, .nil, _, c, h => by simp at h
  | _, _, .cons h1 h2, h, c, hc => by
    rcases List.mem_cons.1 hc with e | e
    · subst e; exact h1.oneCell (h _ (by simp))
    · exact RelVs.one h2 (fun v hv => h v (by simp [hv])) c e

def known : Option AV → Option AV
  | some .undef => none
  | x => x

theorem known_some {x : Option AV} {v : AV} (h : known x = some v) : x = some v ∧ v ≠ .undef := by
  unfold known at h
  split at h
  · cases h
  · subst h
    refine ⟨rfl, ?_⟩
    rintro rfl
    contradiction

def ld (H : AH) (r p ver : Nat) : Option AV :=
  match H[r]? with
  | some (.row cells v stale _) => if v = ver ∨ p < stale then known cells[p]? else none
  | _ => none

def takeKnown : Nat → List AV → Option (List AV)
  | 0, _ => some []
  | _ + 1, [] => none
  | _ + 1, .undef :: _ => none
  | n + 1, v :: l => match takeKnown n l with
    | some l' => some (v :: l')
    | none => none

/-- n cells from place p on. -/
def ldn (H : AH) (r ver n p : Nat) : Option (List AV) :=
  match n with
  | 0 => some []
  | n + 1 => match H[r]? with
    | some (.row cells v stale _) => if v = ver ∨ p + (n + 1) ≤ stale then takeKnown (n + 1) (cells.drop p) else none
    | _ => none

theorem takeKnown_succ (n : Nat) (l : List AV) : takeKnown (n + 1) l = (known l[0]?).bind fun v => (takeKnown n (l.drop 1)).map (v :: ·) := by
  cases l with
  | nil => rfl
  | cons v l =>
    cases v <;> simp only [takeKnown, known, List.getElem?_cons_zero, List.drop_succ_cons, List.drop_zero, Option.bind_some] <;> first | rfl | (split <;> simp_all)

theorem ldn_zero (H : AH) (r ver p : Nat) : ldn H r ver 0 p = some [] := rfl
theorem ldn_succ (H : AH) (r ver n p : Nat) : ldn H r ver (n + 1) p = (ld H r p ver).bind fun v => (ldn H r ver n (p + 1)).map (v :: ·) := by
  cases hr : H[r]? with
  | none => simp [ldn, ld, hr]
  | some o =>
    cases o with
    | map l => simp [ldn, ld, hr]
    | gvar g c => simp [ldn, ld, hr]
    | loop s pe L => simp [ldn, ld, hr]
    | row cells v stale ro =>
      simp only [ldn, ld, hr]
      have hk : known (cells.drop p)[0]? = known cells[p]? := by rw [List.getElem?_drop]; simp
      have hd : (cells.drop p).drop 1 = cells.drop (p + 1) := by rw [List.drop_drop]
      cases n with
      | zero =>
        simp only [takeKnown_succ, hk, takeKnown]
        by_cases h : v = ver ∨ p < stale
        · rw [if_pos (by omega), if_pos h]
        · rw [if_neg (by omega), if_neg h]; rfl
      | succ n =>
        rw [takeKnown_succ, hk, hd]
        by_cases h : v = ver ∨ p + (n + 1 + 1) ≤ stale
        · rw [if_pos h, if_pos (by omega)]; dsimp only; rw [if_pos (by omega)]
        · rw [if_neg h]
          by_cases h2 : v = ver ∨ p < stale
          · rw [if_pos h2]; dsimp only; rw [if_neg (by omega)]
            cases known cells[p]? <;> rfl
          · rw [if_neg h2]; rfl

def st (H : AH) (r p ver : Nat) (v : AV) : Option AH :=
  match H[r]? with
  | some (.row cells ver' stale ro) =>
    if ver' = ver ∧ ro = false ∧ v.one = true then
      (known cells[p]?).map fun _ => H.set r (.row (cells.set p v) ver' (min stale p) ro)
    else none
  | _ => none

/-- Values are written from place p on. -/
def stn (H : AH) (r ver : Nat) (vs : List AV) (p : Nat) : Option AH :=
  match vs with
  | [] => some H
  | v :: vs =>
    match H[r]? with
    | some (.row cells ver' stale ro) =>
      if ver' = ver ∧ ro = false ∧ (v :: vs).all AV.one = true ∧ (takeKnown (v :: vs).length (cells.drop p)).isSome = true then
        some (H.set r (.row (cells.take p ++ (v :: vs) ++ cells.drop (p + (v :: vs).length)) ver' (min stale p) ro))
      else none
    | _ => none

theorem stn_nil (H : AH) (r ver p : Nat) : stn H r ver [] p = some H := rfl
theorem stn_cons (H : AH) (r ver p : Nat) (v : AV) (vs : List AV) : stn H r ver (v :: vs) p = (st H r p ver v).bind fun H' => stn H' r ver vs (p + 1) := by
  cases hr : H[r]? with
  | none => simp [stn, st, hr]
  | some o =>
    cases o with
    | map l => simp [stn, st, hr]
    | gvar g c => simp [stn, st, hr]
    | loop s pe L => simp [stn, st, hr]
    | row cells ver' stale ro =>
      have hrlt : r < H.length := by
        rcases Nat.lt_or_ge r H.length with h1 | h1
        · exact h1
        · rw [List.getElem?_eq_none h1] at hr; cases hr
      have hk : known (cells.drop p)[0]? = known cells[p]? := by rw [List.getElem?_drop]; simp
      have hd : (cells.drop p).drop 1 = cells.drop (p + 1) := by rw [List.drop_drop]
      have hT : takeKnown (vs.length + 1) (cells.drop p) = (known cells[p]?).bind fun v => (takeKnown vs.length (cells.drop (p + 1))).map (v :: ·) := by rw [takeKnown_succ, hk, hd]
      simp only [stn, st, hr, List.length_cons, List.all_cons, Bool.and_eq_true, hT]
      clear hT
      by_cases h1 : ver' = ver ∧ ro = false ∧ v.one = true
      · rw [if_pos h1]
        obtain ⟨a1, a2, a3⟩ := h1
        cases hp : known cells[p]? with
        | none => simp
        | some u =>
          obtain ⟨hp', _⟩ := known_some hp
          have hplt : p < cells.length := by
            rcases Nat.lt_or_ge p cells.length with h2 | h2
            · exact h2
            · rw [List.getElem?_eq_none h2] at hp'; cases hp'
          simp only [Option.bind_some, Option.map_some]
          have hset : (H.set r (.row (cells.set p v) ver' (min stale p) ro))[r]? = some (.row (cells.set p v) ver' (min stale p) ro) := by
            rw [List.getElem?_set_self hrlt]
          have htake : (cells.set p v).take (p + 1) = cells.take p ++ [v] := by
            rw [List.take_set, List.take_succ_eq_append_getElem hplt, List.set_append_right _ _ (by simp; omega)]
            simp [Nat.min_eq_left (Nat.le_of_lt hplt)]
          have hdrop : ∀ k, (cells.set p v).drop (p + 1 + k) = cells.drop (p + 1 + k) := fun k => by rw [List.drop_set_of_lt (by omega)]
          cases vs with
          | nil =>
            simp only [List.length_nil, takeKnown, Option.map_some, Option.isSome_some, List.all_nil]
            rw [if_pos ⟨a1, a2, ⟨a3, trivial⟩, trivial⟩]
            congr 3
            rw [List.set_eq_take_append_cons_drop, if_pos hplt]
            simp
          | cons w vs =>
            have hd0 : (cells.set p v).drop (p + 1) = cells.drop (p + 1) := by simpa using hdrop 0
            simp only [hset, hd0, List.length_cons, List.all_cons, Bool.and_eq_true, Option.isSome_map]
            by_cases h2 : (w.one = true ∧ vs.all AV.one = true) ∧ (takeKnown (vs.length + 1) (cells.drop (p + 1))).isSome = true
            · rw [if_pos ⟨a1, a2, ⟨a3, h2.1⟩, h2.2⟩, if_pos ⟨a1, a2, h2.1, h2.2⟩, List.set_set, htake, hdrop]
              congr 3
              · simp [Nat.add_assoc, Nat.add_comm 1]
              · omega
            · rw [if_neg (fun h => h2 ⟨h.2.2.1.2, h.2.2.2⟩), if_neg (fun h => h2 ⟨h.2.2.1, h.2.2.2⟩)]
      · rw [if_neg h1, if_neg (fun h => h1 ⟨h.1, h.2.1, h.2.2.1.1⟩)]; rfl

/-- What a row becomes when 'vs' are appended to its places from off to off + n. -/
def grow (H : AH) (r off n ver : Nat) (vs : List AV) : Option (AH × Nat) :=
  match H[r]? with
  | some (.row cells v stale ro) =>
    if ro = false ∧ off + n ≤ cells.length ∧ (v = ver ∨ off + n ≤ stale) then
      some (H.set r (.row (List.replicate off .undef ++ (cells.drop off).take n ++ vs) (v + 1) (min stale (off + n)) false), v + 1)
    else none
  | _ => none

section
variable {base : Nat} {w0 w : World} {σ : Inj} {H : AH}

theorem cell_of {w : World} {b k : Nat} {c : Array Value} {e : TypeId} {fz : Nat × Nat} (h : w.heap[b]? = some (.cells c e fz)) : w.cell? ⟨b, k, none⟩ = c[k]? := by
  simp [World.cell?, h]
theorem frozen_of {w : World} {b k : Nat} {c : Array Value} {e : TypeId} (h : w.heap[b]? = some (.cells c e (0, 0))) : w.frozen? ⟨b, k, none⟩ = false := by
  simp [World.frozen?, h]

theorem Sim.ld (S : Sim base w0 σ H w) {r p ver : Nat} {v : AV} (h : ld H r p ver = some v) {b o n : Nat} {d : Int} (hf : σ.fam b = some (r, d, n)) (ho : (o : Int) = d + p)
    (hc : ver = σ.ver r → b = σ.canon r) : v ≠ .undef ∧ ∃ c, w.cell? ⟨b, o, none⟩ = some c ∧ RelV σ v c := by
  unfold AX.ld at h
  split at h
  case h_2 => cases h
  rename_i cells v' stale ro hr
  split at h
  case isFalse => cases h
  rename_i hcond
  obtain ⟨hp, hu⟩ := known_some h
  refine ⟨hu, ?_⟩
  have R := S.rows _ _ _ _ _ hr
  have hat : CellAt σ w b (d + p) v := by
    rcases hcond with e | e
    · have hb := hc (by rw [R.ver]; exact e.symm)
      obtain ⟨d', n', hf', hcell⟩ := R.new
      rw [← hb, hf] at hf'
      cases hf'
      rw [hb]; exact hcell p v hp
    · exact (R.all b d n hf).2.2 p v e hp
  rcases hat with h1 | ⟨k, c, hk, hw, hv⟩
  · exact absurd h1 hu
  · have : k = o := by omega
    subst this
    exact ⟨c, hw, hv⟩

theorem Sim.ldn (S : Sim base w0 σ H w) {r ver : Nat} : ∀ {n p : Nat} {vs : List AV}, ldn H r ver n p = some vs → ∀ {b o m : Nat} {d : Int}, σ.fam b = some (r, d, m) → (o : Int) = d + p →
    (ver = σ.ver r → b = σ.canon r) → ∃ cs, w.rangeAt b o cs ∧ cs.length = n ∧ RelVs σ vs cs := by
  intro n
  induction n with
  | zero => intro p vs h b o m d _ _ _; simp [AX.ldn_zero] at h; subst h; exact ⟨[], fun j v hj => by simp at hj, rfl, .nil⟩
  | succ n ih =>
    intro p vs h b o m d hf ho hc
    simp only [AX.ldn_succ, Option.bind_eq_some_iff, Option.map_eq_some_iff] at h
    obtain ⟨v, h1, vs', h2, rfl⟩ := h
    obtain ⟨_, c, hw, hv⟩ := S.ld h1 hf ho hc
    obtain ⟨cs, hr, hl, hs⟩ := ih h2 (b := b) (o := o + 1) hf (by omega) hc
    refine ⟨c :: cs, fun j u hj => ?_, by simp [hl], .cons hv hs⟩
    cases j with
    | zero => simp at hj; subst hj; simpa using hw
    | succ j => have := hr j u (by simpa using hj); rwa [show o + 1 + j = o + (j + 1) by omega] at this

theorem heap_setCell_same {w : World} {b o : Nat} {x : Value} {c : Array Value} {e : TypeId} {fz : Nat × Nat} (h : w.heap[b]? = some (.cells c e fz)) :
    (w.setCell ⟨b, o, none⟩ x).heap[b]? = some (.cells (c.setIfInBounds o x) e fz) := by
  simp [World.setCell, Array.getElem?_modify, h]

theorem Sim.st (S : Sim base w0 σ H w) {r p ver : Nat} {v : AV} {H' : AH} (h : st H r p ver v = some H') {b o n : Nat} {d : Int} (hf : σ.fam b = some (r, d, n)) (ho : (o : Int) = d + p)
    (hc : ver = σ.ver r → b = σ.canon r) {x : Value} (hx : RelV σ v x) :
    (w.cell? ⟨b, o, none⟩).isSome = true ∧ w.frozen? ⟨b, o, none⟩ = false ∧ x.oneCell' = true ∧ Sim base w0 σ H' (w.setCell ⟨b, o, none⟩ x) := by
  unfold AX.st at h
  split at h
  case h_2 => cases h
  rename_i cells v' stale ro hr
  split at h
  case isFalse => cases h
  rename_i hcond
  obtain ⟨hver, hro, hone⟩ := hcond
  obtain ⟨old, hold, rfl⟩ := Option.map_eq_some_iff.1 h
  obtain ⟨hp, hu⟩ := known_some hold
  have R := S.rows _ _ _ _ _ hr
  have hb : b = σ.canon r := hc (by rw [R.ver]; exact hver.symm)
  obtain ⟨c0, e0, fz0, hh, hsz, hfz⟩ := (R.all b d n hf).2.1
  have hfz := hfz hro
  subst hfz
  have hbase := (R.all b d n hf).1 hro
  have hcell : ∃ cv, w.cell? ⟨b, o, none⟩ = some cv := by
    obtain ⟨d', n', hf', hcell⟩ := R.new
    rw [← hb, hf] at hf'
    cases hf'
    rcases hcell p old hp with h1 | ⟨k, cv, hk, hw, _⟩
    · exact absurd h1 hu
    · have : k = o := by omega
      subst this
      exact ⟨cv, by rw [hb]; exact hw⟩
  obtain ⟨cv, hcv⟩ := hcell
  have hplt : p < cells.length := by
    rcases Nat.lt_or_ge p cells.length with h1 | h1
    · exact h1
    · rw [List.getElem?_eq_none h1] at hp; cases hp
  have hrlt : r < H.length := by
    rcases Nat.lt_or_ge r H.length with h1 | h1
    · exact h1
    · rw [List.getElem?_eq_none h1] at hr; cases hr
  -- other cells
  have hother : ∀ (b' : Nat) (k : Nat), (b' = b → k ≠ o) → (w.setCell ⟨b, o, none⟩ x).cell? ⟨b', k, none⟩ = w.cell? ⟨b', k, none⟩ := by
    intro b' k hk
    refine World.cell?_setCell_other _ _ _ _ (fun e => ?_)
    simp only [Addr.mk.injEq] at e
    exact hk e.1.symm e.2.1.symm
  have hblk : ∀ b', b' ≠ b → (w.setCell ⟨b, o, none⟩ x).heap[b']? = w.heap[b']? := fun b' hb' => Below.heap_setCell _ _ _ _ hb'
  have hsize : (w.setCell ⟨b, o, none⟩ x).heap.size = w.heap.size := by simp [World.setCell]
  refine ⟨by rw [hcv]; rfl, frozen_of hh, hx.oneCell hone, ?_⟩
  refine ⟨S.below.setCell (p := ⟨b, o, none⟩) hbase x, by rw [hsize]; exact S.size, ?_, ?_, ?_, ?_, fun r g c h => S.gvars r g c (gv_set h),
    S.loops_of (.refl σ) (KeepsOthers.setCell w _ x).same (fun _ _ _ _ h => loop_set h), S.oths_of (fun _ _ h => h) (KeepsOthers.setCell w _ x).same, S.minj⟩
  · intro b' r' d' n' h'
    rw [hsize, List.length_set]; exact S.lt b' r' d' n' h'
  · intro r' b' h'
    rw [hsize, List.length_set]; exact S.mlt r' b' h'
  · intro r' cells' ver' stale' ro' h'
    rw [List.getElem?_set] at h'
    split at h'
    · rename_i e; subst e
      cases h'
      refine ⟨R.ver, by rw [List.length_set]; exact R.fin, ?_, ?_⟩
      · refine ⟨d, n, by rw [← hb]; exact hf, fun q u hq => ?_⟩
        rw [List.getElem?_set] at hq
        split at hq
        · rename_i e; subst e
          cases hq
          exact .inr ⟨o, x, by rw [← ho], by rw [← hb]; exact World.cell?_setCell_same _ _ _ hcv, hx⟩
        · rename_i hne
          obtain ⟨d', n', hf', hcell⟩ := R.new
          rw [← hb, hf] at hf'
          cases hf'
          exact (hcell q u hq).mono (.refl σ) (fun k hk => hother _ _ (fun _ e => hne (by omega)))
      · intro b' d' n' h'
        obtain ⟨h1, ⟨c1, e1, f1, g1, g2, g3⟩, h3⟩ := R.all b' d' n' h'
        refine ⟨h1, ?_, ?_⟩
        · by_cases hbb : b' = b
          · subst hbb
            rw [hf] at h'; cases h'
            exact ⟨_, _, _, heap_setCell_same hh, by simp [hsz], fun _ => rfl⟩
          · exact ⟨c1, e1, f1, by rw [hblk _ hbb]; exact g1, g2, g3⟩
        · intro q u hq hu'
          have hqp : q ≠ p := by omega
          rw [List.getElem?_set_ne (Ne.symm hqp)] at hu'
          refine (h3 q u (by omega) hu').mono (.refl σ) (fun k hk => hother _ _ (fun e e' => ?_))
          subst e
          rw [hf] at h'; cases h'
          omega
    · rename_i hne
      have R' := S.rows _ _ _ _ _ h'
      have hfam : ∀ b' d' n', σ.fam b' = some (r', d', n') → b' ≠ b := fun b' d' n' h1 e => by
        subst e; rw [hf] at h1; cases h1; exact hne rfl
      refine ⟨R'.ver, R'.fin, ?_, ?_⟩
      · obtain ⟨d', n', hf', hcell⟩ := R'.new
        exact ⟨d', n', hf', fun q u hq => (hcell q u hq).mono (.refl σ) (fun k _ => hother _ _ (fun e => absurd e (hfam _ _ _ hf')))⟩
      · intro b' d' n' h1
        obtain ⟨g1, ⟨c1, e1, f1, g2, g3, g4⟩, g5⟩ := R'.all b' d' n' h1
        exact ⟨g1, ⟨c1, e1, f1, by rw [hblk _ (hfam _ _ _ h1)]; exact g2, g3, g4⟩, fun q u hq hu' => (g5 q u hq hu').mono (.refl σ) (fun k _ => hother _ _ (fun e => absurd e (hfam _ _ _ h1)))⟩
  · intro r' l h'
    rw [List.getElem?_set] at h'
    split at h'
    · rename_i e; subst e; cases h'
    · obtain ⟨b', es, clock, h1, h2, h3, h4⟩ := (S.maps _ _ h').at_
      refine ⟨b', es, clock, h1, h2, ?_, h4⟩
      rw [hblk]
      · exact h3
      · rintro rfl
        rw [hh] at h3; cases h3

theorem Sim.stn {r ver : Nat} : ∀ {vs : List AV} {cs : List Value} {p : Nat} {H H' : AH} {w : World}, Sim base w0 σ H w → stn H r ver vs p = some H' → RelVs σ vs cs → ∀ {b o m : Nat} {d : Int}, σ.fam b = some (r, d, m) → (o : Int) = d + p →
    (ver = σ.ver r → b = σ.canon r) → w.there b o cs.length ∧ (∀ c ∈ cs, c.oneCell' = true) ∧ Sim base w0 σ H' (w.setCells b o cs)
  | [], _, p, H, H', w, S, h, .nil, b, o, m, d, _, _, _ => by
    simp [AX.stn_nil] at h; subst h
    exact ⟨fun j hj => by simp at hj, by simp, S⟩
  | v :: vs, _, p, H, H', w, S, h, .cons (c := c) (cs := cs) h1 h2, b, o, m, d, hf, ho, hc => by
    simp only [AX.stn_cons, Option.bind_eq_some_iff] at h
    obtain ⟨H1, e1, e2⟩ := h
    obtain ⟨g1, g2, g3, S1⟩ := S.st e1 hf ho hc h1
    obtain ⟨k1, k2, k3⟩ := Sim.stn S1 e2 h2 (b := b) (o := o + 1) hf (by omega) hc
    refine ⟨fun j hj => ?_, fun x hx => ?_, ?_⟩
    · cases j with
      | zero => exact ⟨by simpa using g1, by simpa using g2⟩
      | succ j =>
        have := k1 j (by simpa using hj)
        rw [World.frozen?_setCell, World.cell?_setCell_other _ _ _ _ (by simp; omega), show o + 1 + j = o + (j + 1) by omega] at this
        exact this
    · rcases List.mem_cons.1 hx with e | e
      · subst e; exact g3
      · exact k2 x e
    · exact k3

/-! ### A new row -/
def Inj.new (σ : Inj) (r b : Nat) (d : Int) (n v m : Nat) : Inj :=
  { fin := fun x => if x = r then m else σ.fin x, canon := fun x => if x = r then b else σ.canon x, fam := fun x => if x = b then some (r, d, n) else σ.fam x, ver := fun x => if x = r then v else σ.ver x, mapAt := σ.mapAt, oth := σ.oth }

theorem Sim.le_new (S : Sim base w0 σ H w) (n m : Nat) : σ.le (σ.new H.length w.heap.size 0 n 0 m) := by
  refine ⟨fun b r d m h => ?_, fun b r d m h _ => ?_, fun r b h => h, fun r b h => h⟩
  · have := S.lt b r d m h
    simp only [Inj.new]
    rw [if_neg (by omega), if_neg (by omega), if_neg (by omega)]
    exact ⟨h, Nat.le_refl _, fun _ => rfl⟩
  · have := S.lt b r d m h
    simp only [Inj.new]
    rw [if_neg (by omega)]

theorem Sim.drew (S : Sim base w0 σ H w) : Sim base w0 σ H w.drew :=
  ⟨S.below.drew, S.size, S.lt, S.mlt, fun r c v s o h =>
    let R := S.rows r c v s o h
    ⟨R.ver, R.fin, R.new, R.all⟩, fun r l h => ⟨(S.maps r l h).at_⟩, S.gvars,
    S.loops_of (.refl σ) (fun _ _ h _ => h) (fun _ _ _ _ h => h), S.oths_of (fun _ _ h => h) (fun _ _ h _ => h), S.minj⟩

theorem Sim.alloc (S : Sim base w0 σ H w) {cells : List AV} {C : Array Value} (e : TypeId) (stale : Nat) (hc : ∀ (p : Nat) (v : AV), cells[p]? = some v → v ≠ .undef → ∃ c : Value, C[p]? = some c ∧ RelV σ v c) :
    Sim base w0 (σ.new H.length w.heap.size 0 C.size 0 cells.length) (H ++ [.row cells 0 stale false]) (w.alloc (.cells C e)) := by
  have hle := S.le_new C.size cells.length
  have hnew : (w.alloc (.cells C e)).heap[w.heap.size]? = some (.cells C e (0, 0)) := by
    show (w.heap.push _)[w.heap.size]? = _
    simp
  have hold : ∀ b, b < w.heap.size → (w.alloc (.cells C e)).heap[b]? = w.heap[b]? := fun b hb => Below.heap_alloc _ _ _ hb
  have hcell : ∀ b k, b < w.heap.size → (w.alloc (.cells C e)).cell? ⟨b, k, none⟩ = w.cell? ⟨b, k, none⟩ := fun b k hb => World.cell?_of_block (w := w) (hold b hb)
  have hsize : (w.alloc (.cells C e)).heap.size = w.heap.size + 1 := by
    show (w.heap.push _).size = _
    simp
  have hcl : ∀ (p : Nat) (v : AV), cells[p]? = some v → CellAt (σ.new H.length w.heap.size 0 C.size 0 cells.length) (w.alloc (.cells C e)) w.heap.size (0 + (p : Int)) v := by
    intro p v hp
    by_cases hu : v = .undef
    · exact .inl hu
    · obtain ⟨c, h1, h2⟩ := hc p v hp hu
      exact .inr ⟨p, c, by omega, by rw [cell_of hnew]; exact h1, h2.mono hle⟩
  refine ⟨S.below.alloc S.size _, by rw [hsize]; have := S.size; omega, ?_, ?_, ?_, ?_, fun r g c h => (S.gvars r g c (gv_push h)).mono hle,
    S.loops_of hle (KeepsOthers.alloc w _).same (fun _ _ _ _ h => loop_push h), S.oths_of (fun _ _ h => h) (KeepsOthers.alloc w _).same, S.minj⟩
  · intro b r d n h
    simp only [Inj.new] at h
    rw [List.length_append, hsize]
    split at h
    · cases h; simp_all
    · have := S.lt b r d n h; simp; omega
  · intro r b h
    have := S.mlt r b h
    rw [List.length_append, hsize]; simp; omega
  · intro r cells' ver' stale' ro' h
    rcases Nat.lt_or_ge r H.length with hr | hr
    · rw [List.getElem?_append_left hr] at h
      have R := S.rows _ _ _ _ _ h
      refine ⟨by simp only [Inj.new]; rw [if_neg (by omega)]; exact R.ver, by simp only [Inj.new]; rw [if_neg (by omega)]; exact R.fin, ?_, ?_⟩
      · obtain ⟨d, n, hf, hcell'⟩ := R.new
        have hb := (S.lt _ _ _ _ hf).2
        refine ⟨d, n, ?_, ?_⟩
        · simp only [Inj.new]; rw [if_neg (by omega : ¬ r = H.length), if_neg (by omega)]; exact hf
        · intro p v hp
          simp only [Inj.new]; rw [if_neg (by omega : ¬ r = H.length)]
          exact (hcell' p v hp).mono hle (fun k _ => hcell _ _ hb)
      · intro b d n hf
        simp only [Inj.new] at hf
        split at hf
        · cases hf; omega
        · have hb := (S.lt _ _ _ _ hf).2
          obtain ⟨g1, ⟨c1, e1, f1, g2, g3, g4⟩, g5⟩ := R.all b d n hf
          exact ⟨g1, ⟨c1, e1, f1, by rw [hold _ hb]; exact g2, g3, g4⟩, fun p v hp hv => (g5 p v hp hv).mono hle (fun k _ => hcell _ _ hb)⟩
    · rw [List.getElem?_append_right hr] at h
      have hr0 : r = H.length := by
        rcases Nat.lt_or_ge (r - H.length) 1 with h1 | h1
        · omega
        · rw [List.getElem?_eq_none (by simpa using h1)] at h; cases h
      subst hr0
      simp at h
      obtain ⟨rfl, rfl, rfl, rfl⟩ := h
      refine ⟨by simp [Inj.new], by simp [Inj.new], ?_, ?_⟩
      · refine ⟨0, C.size, by simp [Inj.new], fun p v hp => ?_⟩
        have := hcl p v hp
        simpa [Inj.new] using this
      · intro b d n hf
        simp only [Inj.new] at hf
        split at hf
        · rename_i hb; subst hb
          cases hf
          exact ⟨fun _ => S.size, ⟨C, e, (0, 0), hnew, rfl, fun _ => rfl⟩, fun p v _ hv => hcl p v hv⟩
        · have := S.lt _ _ _ _ hf; omega
  · intro r l h
    rcases Nat.lt_or_ge r H.length with hr | hr
    · rw [List.getElem?_append_left hr] at h
      obtain ⟨b, es, clock, h1, h2, h3, h4⟩ := (S.maps _ _ h).at_
      have hb := (S.mlt _ _ h1).2
      have hre : ∀ {l es}, RelEs σ l es → RelEs (σ.new H.length w.heap.size 0 C.size 0 cells.length) l es := by
        intro l
        induction l with
        | nil => intro es h; cases es <;> simp_all [RelEs]
        | cons x l ih => intro es h; cases es with
          | nil => simp [RelEs] at h
          | cons y es => exact ⟨h.1.mono hle, h.2.1.mono hle, ih h.2.2⟩
      exact ⟨b, es, clock, h1, h2, by rw [hold _ hb]; exact h3, hre h4⟩
    · rw [List.getElem?_append_right hr] at h
      rcases Nat.lt_or_ge (r - H.length) 1 with h1 | h1
      · have : r - H.length = 0 := by omega
        rw [this] at h; simp at h
      · rw [List.getElem?_eq_none (by simpa using h1)] at h; cases h

/-! ### A row that grows -/
theorem RelEs.mono {σ σ' : Inj} (h : σ.le σ') : ∀ {l : List (AV × AV)} {es : List MapEntry}, RelEs σ l es → RelEs σ' l es
  | [], [], _ => trivial
  | [], _ :: _, h1 => h1.elim
  | _ :: _, [], h1 => h1.elim
  | _ :: _, _ :: _, h1 => ⟨h1.1.mono h, h1.2.1.mono h, RelEs.mono h h1.2.2⟩

theorem heap_setCells_other {b b' : Nat} (h : b' ≠ b) : ∀ (cs : List Value) (o : Nat) (w : World), (w.setCells b o cs).heap[b']? = w.heap[b']?
  | [], _, _ => rfl
  | c :: cs, o, w => by rw [World.setCells, heap_setCells_other h cs, Below.heap_setCell _ _ _ _ h]
theorem heap_setCells_same {b : Nat} : ∀ (cs : List Value) (o : Nat) (w : World) (c : Array Value) (e : TypeId) (fz : Nat × Nat), w.heap[b]? = some (.cells c e fz) →
    ∃ c' : Array Value, (w.setCells b o cs).heap[b]? = some (.cells c' e fz) ∧ c'.size = c.size
  | [], _, _, c, _, _, h => ⟨c, h, rfl⟩
  | x :: cs, o, w, c, e, fz, h => by
    obtain ⟨c', h1, h2⟩ := heap_setCells_same cs (o + 1) (w.setCell ⟨b, o, none⟩ x) _ e fz (heap_setCell_same h)
    exact ⟨c', h1, by simpa using h2⟩
theorem size_setCells {b : Nat} : ∀ (cs : List Value) (o : Nat) (w : World), (w.setCells b o cs).heap.size = w.heap.size
  | [], _, _ => rfl
  | c :: cs, o, w => by rw [World.setCells, size_setCells cs]; simp [World.setCell]
theorem below_setCells {b : Nat} (hb : base ≤ b) : ∀ (cs : List Value) (o : Nat) (w : World), Below base w0 w → Below base w0 (w.setCells b o cs)
  | [], _, _, h => h
  | c :: cs, o, _w, h => below_setCells hb cs _ _ (h.setCell (p := ⟨b, o, none⟩) hb c)

theorem Sim.grow_core (S : Sim base w0 σ H w) {r : Nat} {cells cells' : List AV} {v stale : Nat} (hr : H[r]? = some (.row cells v stale false)) {w' : World} (hbelow : Below base w0 w') (hsz : w.heap.size ≤ w'.heap.size)
    {b n : Nat} {d : Int} (e : Nat) (hb : σ.fam b = some (r, d, n) ∨ b = w.heap.size) (hb' : b < w'.heap.size) (hbase : base ≤ b) (hblk : ∃ c t, w'.heap[b]? = some (.cells c t (0, 0)) ∧ c.size = n)
    (hoth : ∀ b', b' < w.heap.size → b' ≠ b → w'.heap[b']? = w.heap[b']?) (hkeep : σ.fam b = some (r, d, n) → ∀ k : Nat, (k : Int) < d + e → w'.cell? ⟨b, k, none⟩ = w.cell? ⟨b, k, none⟩)
    (hpre : ∀ (p : Nat) (x : AV), p < e → cells'[p]? = some x → x = .undef ∨ cells[p]? = some x)
    (hnew : ∀ (p : Nat) (x : AV), cells'[p]? = some x → CellAt σ w' b (d + p) x) :
    σ.le (σ.new r b d n (v + 1) cells'.length) ∧ Sim base w0 (σ.new r b d n (v + 1) cells'.length) (H.set r (.row cells' (v + 1) (min stale e) false)) w' := by
  have R := S.rows _ _ _ _ _ hr
  have hrlt : r < H.length := by
    rcases Nat.lt_or_ge r H.length with h1 | h1
    · exact h1
    · rw [List.getElem?_eq_none h1] at hr; cases hr
  have hbsz : ∀ b' r' d' n', σ.fam b' = some (r', d', n') → b' < w.heap.size := fun b' r' d' n' h => (S.lt _ _ _ _ h).2
  have hbne : ∀ b' r' d' n', σ.fam b' = some (r', d', n') → r' ≠ r → b' ≠ b := by
    intro b' r' d' n' h hne e1
    subst e1
    rcases hb with h2 | h2
    · rw [h] at h2; cases h2; exact hne rfl
    · have := hbsz _ _ _ _ h; omega
  have hle : σ.le (σ.new r b d n (v + 1) cells'.length) := by
    refine ⟨fun b' r' d' n' h => ?_, fun b' r' d' n' h => ?_, fun r b h => h, fun r b h => h⟩
    rotate_left
    · simp only [Inj.new]
      split
      · rename_i e1; subst e1; rw [R.ver]; omega
      · intro _; rfl
    simp only [Inj.new]
    refine ⟨?_, ?_, ?_⟩
    · split
      · rename_i e1; subst e1
        rcases hb with h2 | h2
        · rw [← h2, ← h]
        · have := hbsz _ _ _ _ h; omega
      · exact h
    · split
      · rename_i e1; subst e1; rw [R.ver]; omega
      · exact Nat.le_refl _
    · split
      · rename_i e1; subst e1; rw [R.ver]; omega
      · intro _; rfl
  have hko : ∀ (k : Nat) (o : Obj), w.heap[k]? = some o → o.isCells = false → w'.heap[k]? = some o := by
    intro k o hk ho
    have hkl := (Array.getElem?_eq_some_iff.1 hk).1
    rw [hoth k hkl]
    · exact hk
    · rintro rfl
      rcases hb with h5 | h5
      · obtain ⟨_, ⟨c2, e2, f2, g2, _, _⟩, _⟩ := R.all _ _ _ h5
        rw [hk] at g2; cases g2; cases ho
      · omega
  refine ⟨hle, hbelow, Nat.le_trans S.size hsz, ?_, ?_, ?_, ?_, fun r g c h => (S.gvars r g c (gv_set h)).mono hle,
    S.loops_of hle hko (fun _ _ _ _ h => loop_set h), S.oths_of (fun _ _ h => h) hko, S.minj⟩
  · intro b' r' d' n' h
    rw [List.length_set]
    simp only [Inj.new] at h
    split at h
    · rename_i e1; subst e1; cases h; exact ⟨hrlt, hb'⟩
    · have := S.lt _ _ _ _ h; exact ⟨this.1, by omega⟩
  · intro r' b' h
    rw [List.length_set]
    have := S.mlt _ _ h; exact ⟨this.1, by omega⟩
  · intro r' c1 v1 s1 o1 h
    rw [List.getElem?_set] at h
    split at h
    · rename_i e1; subst e1
      cases h
      refine ⟨by simp [Inj.new], by simp [Inj.new], ?_, ?_⟩
      · exact ⟨d, n, by simp [Inj.new], fun p x hp => by
          have := (hnew p x hp).mono hle (fun _ _ => rfl)
          simpa [Inj.new] using this⟩
      · intro b' d' n' hf
        simp only [Inj.new] at hf
        split at hf
        · rename_i e1; subst e1
          cases hf
          refine ⟨fun _ => hbase, ?_, fun p x _ hp => (hnew p x hp).mono hle (fun _ _ => rfl)⟩
          obtain ⟨c, t, h1, h2⟩ := hblk
          exact ⟨c, t, (0, 0), h1, h2, fun _ => rfl⟩
        · rename_i hne
          obtain ⟨g1, ⟨c2, e2, f2, g2, g3, g4⟩, g5⟩ := R.all b' d' n' hf
          refine ⟨g1, ⟨c2, e2, f2, by rw [hoth _ (hbsz _ _ _ _ hf) hne]; exact g2, g3, g4⟩, fun p x hp hx => ?_⟩
          rcases hpre p x (by omega) hx with h1 | h1
          · exact .inl h1
          · exact (g5 p x (by omega) h1).mono hle (fun k _ => World.cell?_of_block (w := w) (hoth _ (hbsz _ _ _ _ hf) hne))
    · rename_i hne
      have R' := S.rows _ _ _ _ _ h
      refine ⟨?_, ?_, ?_, ?_⟩
      · simp only [Inj.new]; rw [if_neg (Ne.symm hne)]; exact R'.ver
      · simp only [Inj.new]; rw [if_neg (Ne.symm hne)]; exact R'.fin
      · obtain ⟨d', n', hf', hcell⟩ := R'.new
        have hx := hbne _ _ _ _ hf' (Ne.symm hne)
        refine ⟨d', n', ?_, fun p x hp => ?_⟩
        · simp only [Inj.new]; rw [if_neg (Ne.symm hne), if_neg hx]; exact hf'
        · simp only [Inj.new]; rw [if_neg (Ne.symm hne)]
          exact (hcell p x hp).mono hle (fun k _ => World.cell?_of_block (w := w) (hoth _ (hbsz _ _ _ _ hf') hx))
      · intro b' d' n' hf
        simp only [Inj.new] at hf
        split at hf
        · cases hf; exact absurd rfl hne
        · rename_i hne'
          obtain ⟨g1, ⟨c2, e2, f2, g2, g3, g4⟩, g5⟩ := R'.all b' d' n' hf
          exact ⟨g1, ⟨c2, e2, f2, by rw [hoth _ (hbsz _ _ _ _ hf) hne']; exact g2, g3, g4⟩, fun p x hp hx => (g5 p x hp hx).mono hle (fun k _ => World.cell?_of_block (w := w) (hoth _ (hbsz _ _ _ _ hf) hne'))⟩
  · intro r' l h
    rw [List.getElem?_set] at h
    split at h
    · cases h
    · obtain ⟨b', es, clock, h1, h2, h3, h4⟩ := (S.maps _ _ h).at_
      refine ⟨b', es, clock, h1, h2, ?_, h4.mono hle⟩
      have hbb : b' ≠ b := by
        rintro rfl
        rcases hb with h5 | h5
        · obtain ⟨_, ⟨c2, e2, f2, g2, _, _⟩, _⟩ := R.all _ _ _ h5
          rw [h3] at g2; cases g2
        · have := (S.mlt _ _ h1).2; omega
      rw [hoth _ (S.mlt _ _ h1).2 hbb]; exact h3

theorem grow_some {H H' : AH} {r off n ver v' : Nat} {vs : List AV} (h : grow H r off n ver vs = some (H', v')) : ∃ cells v stale, H[r]? = some (.row cells v stale false) ∧ off + n ≤ cells.length ∧ (v = ver ∨ off + n ≤ stale) ∧
    H' = H.set r (.row (List.replicate off .undef ++ (cells.drop off).take n ++ vs) (v + 1) (min stale (off + n)) false) ∧ v' = v + 1 := by
  unfold grow at h
  split at h
  case h_2 => cases h
  rename_i cells v stale ro hr
  split at h
  case isFalse => cases h
  rename_i hc
  obtain ⟨rfl, h1, h2⟩ := hc
  cases h
  exact ⟨cells, v, stale, hr, h1, h2, rfl, rfl⟩

theorem grown_get {cells vs : List AV} {off n : Nat} (hl : off + n ≤ cells.length) (p : Nat) (x : AV) (h : (List.replicate off AV.undef ++ (cells.drop off).take n ++ vs)[p]? = some x) :
    (p < off ∧ x = .undef) ∨ (off ≤ p ∧ p < off + n ∧ cells[p]? = some x) ∨ (off + n ≤ p ∧ vs[p - (off + n)]? = some x) := by
  have hlen : ((cells.drop off).take n).length = n := by simp; omega
  rcases Nat.lt_or_ge p off with h1 | h1
  · left
    rw [List.append_assoc, List.getElem?_append_left (by simpa using h1)] at h
    simp [h1] at h
    exact ⟨h1, h.symm⟩
  · rcases Nat.lt_or_ge p (off + n) with h2 | h2
    · right; left
      rw [List.append_assoc, List.getElem?_append_right (by simpa using h1), List.getElem?_append_left (by rw [hlen]; simp; omega)] at h
      refine ⟨h1, h2, ?_⟩
      rw [List.getElem?_take_of_lt (by simp; omega), List.getElem?_drop] at h
      simpa [show off + (p - off) = p by omega] using h
    · right; right
      rw [List.getElem?_append_right (by simp; omega)] at h
      refine ⟨h2, ?_⟩
      simpa [hlen, show p - (off + n) = p - (off + min n (cells.length - off)) by omega] using h

theorem grown_len {cells vs : List AV} {off n : Nat} (hl : off + n ≤ cells.length) : (List.replicate off AV.undef ++ (cells.drop off).take n ++ vs).length = off + (n + vs.length) := by
  simp; omega

theorem Sim.grow_in (S : Sim base w0 σ H w) {r off n ver v' : Nat} {vs : List AV} {H' : AH} (h : grow H r off n ver vs = some (H', v')) {b o m : Nat} {d : Int} (hf : σ.fam b = some (r, d, m)) (ho : (o : Int) = d + off)
    (hc : ver = σ.ver r → b = σ.canon r) {cs : List Value} (hcs : RelVs σ vs cs) (hm : o + (n + cs.length) ≤ m) :
    w.there b (o + n) cs.length ∧ σ.le (σ.new r b d m v' (off + (n + vs.length))) ∧ Sim base w0 (σ.new r b d m v' (off + (n + vs.length))) H' (w.setCells b (o + n) cs) := by
  obtain ⟨cells, v, stale, hr, h1, h2, rfl, rfl⟩ := grow_some h
  have R := S.rows _ _ _ _ _ hr
  obtain ⟨g1, ⟨c0, e0, f0, hh, hsz, hfz⟩, g5⟩ := R.all b d m hf
  have := hfz rfl
  subst this
  have hthere : w.there b (o + n) cs.length := fun j hj => ⟨by rw [cell_of hh, Array.getElem?_eq_getElem (by omega)]; rfl, frozen_of hh⟩
  obtain ⟨c1, hh1, hsz1⟩ := heap_setCells_same cs (o + n) w c0 e0 (0, 0) hh
  have hbw := (S.lt _ _ _ _ hf).2
  refine ⟨hthere, ?_⟩
  rw [← grown_len h1]
  refine S.grow_core (cells' := List.replicate off .undef ++ (cells.drop off).take n ++ vs) hr (below_setCells (g1 rfl) cs _ _ S.below) (by rw [size_setCells]; exact Nat.le_refl _) (off + n) (.inl hf) (by rw [size_setCells]; exact hbw) (g1 rfl)
    ⟨c1, e0, hh1, by omega⟩ (fun b' _ hne => heap_setCells_other hne _ _ _) (fun _ k hk => World.cell?_setCells_out b cs _ _ _ (fun _ _ => .inl (by show k < o + n; omega))) ?_ ?_
  · intro p x hp hx
    rcases grown_get h1 p x hx with h3 | h3 | h3
    · exact .inl h3.2
    · exact .inr h3.2.2
    · omega
  · intro p x hx
    rcases grown_get h1 p x hx with h3 | h3 | h3
    · exact .inl h3.2
    · have hat : CellAt σ w b (d + p) x := by
        rcases h2 with e | e
        · have hb := hc (by rw [R.ver]; exact e.symm)
          obtain ⟨d', n', hf', hcell⟩ := R.new
          rw [← hb, hf] at hf'
          cases hf'
          rw [hb]; exact hcell p x h3.2.2
        · exact g5 p x (by omega) h3.2.2
      exact hat.mono (.refl σ) (fun k hk => World.cell?_setCells_out b cs _ _ _ (fun _ _ => .inl (by show k < o + n; omega)))
    · have hx : ∃ c, cs[p - (off + n)]? = some c ∧ RelV σ x c := hcs.get h3.2
      obtain ⟨c, hc1, hc2⟩ := hx
      have hlt : p - (off + n) < cs.length := by
        rcases Nat.lt_or_ge (p - (off + n)) cs.length with h4 | h4
        · exact h4
        · rw [List.getElem?_eq_none h4] at hc1; cases hc1
      refine .inr ⟨o + n + (p - (off + n)), c, by omega, ?_, hc2⟩
      rw [World.cell?_setCells_in b cs (o + n) w (fun j hj => (hthere j hj).1) _ hlt]
      rw [List.getElem?_eq_getElem hlt] at hc1
      exact hc1

theorem Sim.grow_out (S : Sim base w0 σ H w) {r off n ver v' : Nat} {vs : List AV} {H' : AH} (h : grow H r off n ver vs = some (H', v')) {b o m : Nat} {d : Int} (hf : σ.fam b = some (r, d, m)) (ho : n ≠ 0 → (o : Int) = d + off ∧ o + n ≤ m)
    (hc : ver = σ.ver r → b = σ.canon r) {cs : List Value} (hcs : RelVs σ vs cs) :
    ∃ olds : List Value, olds.length = n ∧ w.rangeAt b o olds ∧ ∀ (rest : List Value) (e : TypeId) (C : Array Value), C.toList = olds ++ cs ++ rest →
      σ.le (σ.new r w.heap.size (-(off : Int)) C.size v' (off + (n + vs.length))) ∧ Sim base w0 (σ.new r w.heap.size (-(off : Int)) C.size v' (off + (n + vs.length))) H' (w.drew.alloc (.cells C e)) := by
  obtain ⟨cells, v, stale, hr, h1, h2, rfl, rfl⟩ := grow_some h
  have R := S.rows _ _ _ _ _ hr
  obtain ⟨g1, ⟨c0, e0, f0, hh, hsz, hfz⟩, g5⟩ := R.all b d m hf
  have hol : ((c0.toList.drop o).take n).length = n := by
    by_cases hn : n = 0
    · subst hn; simp
    · have := (ho hn).2; simp; omega
  have hget : ∀ j, j < n → ((c0.toList.drop o).take n)[j]? = c0[o + j]? := fun j hj => by
    rw [List.getElem?_take_of_lt hj, List.getElem?_drop, Array.getElem?_toList]
  refine ⟨(c0.toList.drop o).take n, hol, ?_, ?_⟩
  · intro j u hj
    have hlt : j < n := by
      rcases Nat.lt_or_ge j n with h4 | h4
      · exact h4
      · rw [List.getElem?_eq_none (by omega)] at hj; cases hj
    rw [hget j hlt] at hj
    rw [cell_of hh]; exact hj
  · intro rest e C hC
    have hnew : (w.drew.alloc (.cells C e)).heap[w.heap.size]? = some (.cells C e (0, 0)) := by
      show (w.heap.push _)[w.heap.size]? = _
      simp
    have hsize : (w.drew.alloc (.cells C e)).heap.size = w.heap.size + 1 := by
      show (w.heap.push _).size = _
      simp
    rw [← grown_len h1]
    refine S.grow_core (cells' := List.replicate off .undef ++ (cells.drop off).take n ++ vs) hr (S.below.drew.alloc (by show base ≤ w.heap.size; exact S.size) _) (by rw [hsize]; omega) (off + n) (.inr rfl) (by rw [hsize]; omega) S.size
      ⟨C, e, hnew, rfl⟩ (fun b' hb' _ => Below.heap_alloc _ _ _ hb') (fun hf2 => by have := (S.lt _ _ _ _ hf2).2; omega) ?_ ?_
    · intro p x hp hx
      rcases grown_get h1 p x hx with h3 | h3 | h3
      · exact .inl h3.2
      · exact .inr h3.2.2
      · omega
    · intro p x hx
      rcases grown_get h1 p x hx with h3 | h3 | h3
      · exact .inl h3.2
      · have hn0 : n ≠ 0 := by omega
        obtain ⟨ho1, ho2⟩ := ho hn0
        have hat : CellAt σ w b (d + p) x := by
          rcases h2 with e | e
          · have hb := hc (by rw [R.ver]; exact e.symm)
            obtain ⟨d', n', hf', hcell⟩ := R.new
            rw [← hb, hf] at hf'
            cases hf'
            rw [hb]; exact hcell p x h3.2.2
          · exact g5 p x (by omega) h3.2.2
        rcases hat with h4 | ⟨k, c, hk, hw, hv⟩
        · exact .inl h4
        · refine .inr ⟨p - off, c, by omega, ?_, hv⟩
          rw [cell_of hnew, ← Array.getElem?_toList, hC, List.append_assoc, List.getElem?_append_left (by omega), hget _ (by omega)]
          rw [cell_of hh] at hw
          rw [show o + (p - off) = k by omega]; exact hw
      · have hx : ∃ c, cs[p - (off + n)]? = some c ∧ RelV σ x c := hcs.get h3.2
        obtain ⟨c, hc1, hc2⟩ := hx
        have hlt : p - (off + n) < cs.length := by
          rcases Nat.lt_or_ge (p - (off + n)) cs.length with h4 | h4
          · exact h4
          · rw [List.getElem?_eq_none h4] at hc1; cases hc1
        refine .inr ⟨p - off, c, by omega, ?_, hc2⟩
        rw [cell_of hnew, ← Array.getElem?_toList, hC, List.append_assoc, List.getElem?_append_right (by omega), hol, List.getElem?_append_left (by omega), show p - off - n = p - (off + n) by omega]
        exact hc1
end
end Go.Proofs.Ytjfmiohgkcjdnaa.AX
