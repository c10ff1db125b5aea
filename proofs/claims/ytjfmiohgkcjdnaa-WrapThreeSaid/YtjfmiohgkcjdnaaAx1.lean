/- A plain reading of runs: loops over functions, and their rounds. -/
import Derived.Test.YtjfmiohgkcjdnaaAxI
namespace Go.Proofs.Ytjfmiohgkcjdnaa.AX
open Go Go.RowKit

section
variable {base : Nat} {w0 w w' : World} {σ σ' : Inj} {H H' : AH}

/-- A loop's record turns. -/
theorem Sim.setLoop (S : Sim base w0 σ H w) {r b : Nat} {s : LoopState} {pe : Ex} {L : LR} {R : Loop} (hr : H[r]? = some (.loop s pe L)) (hb : σ.mapAt r = some b) (hh : w.heap[b]? = some (.loop R)) (s' : LoopState) (pe' : Ex) :
    Sim base w0 σ (H.set r (.loop s' pe' L)) (w.putObj b (.loop { R with state := s', pending := pe'.code })) := by
  obtain ⟨b1, R1, h1, h2, h3, h4, h5, h6, h7, h8, h9, h10, h11⟩ := (S.loops r s pe L hr).at_
  rw [hb] at h1; cases h1
  rw [hh] at h3; cases h3
  have hlt := (Array.getElem?_eq_some_iff.1 hh).1
  have hrl := (List.getElem?_eq_some_iff.1 hr).1
  have hset : ∀ (q : Nat) (o : AObj), (H.set r (.loop s' pe' L))[q]? = some o → (q = r ∧ o = .loop s' pe' L) ∨ (q ≠ r ∧ H[q]? = some o) := by
    intro q o h
    rw [List.getElem?_set] at h
    split at h
    · rename_i e; subst e; simp [hrl] at h; exact .inl ⟨rfl, h.symm⟩
    · rename_i hne; exact .inr ⟨fun e => hne e.symm, h⟩
  refine S.putObj (f := σ.oth) h2 hh rfl (by simp) (fun q c v s ro h => ?_) (fun q l h => ?_) (fun q g c h => ?_) (fun q s2 pe2 L2 h => ?_) (fun k x hk => ?_)
  · rcases hset _ _ h with ⟨-, e⟩ | ⟨-, h⟩
    · cases e
    · exact h
  · rcases hset _ _ h with ⟨-, e⟩ | ⟨hne, h⟩
    · cases e
    · exact ⟨h, fun e => hne (S.minj _ _ _ e hb)⟩
  · rcases hset _ _ h with ⟨-, e⟩ | ⟨-, h⟩
    · cases e
    · exact h
  · rcases hset _ _ h with ⟨rfl, e⟩ | ⟨hne, h⟩
    · cases e
      exact ⟨b, { R with state := s', pending := pe'.code }, hb, h2, World.putObj_heap_same hlt, rfl, rfl, h6, h7, h8, h9, fun t => (h10 t).woth, h11⟩
    · obtain ⟨k, R2, g1, g2, g3, g4, g5, g6, g7, g8, g9, g10, g11⟩ := (S.loops q s2 pe2 L2 h).at_
      refine ⟨k, R2, g1, g2, ?_, g4, g5, g6, g7, g8, g9, fun t => (g10 t).woth, g11⟩
      rw [World.putObj_heap_other (fun e => hne (S.minj _ _ _ (by rw [e] at g1; exact g1) hb))]
      exact g3
  · obtain ⟨g1, g2⟩ := S.oths k x hk
    refine ⟨g1, ?_⟩
    by_cases e : k = b
    · subst e
      cases x with
      | false => have : w.heap[k]? = some (.deferred (some [])) := g2; rw [hh] at this; cases this
      | true => exact ⟨_, World.putObj_heap_same hlt⟩
    · exact g2.put_other e

/-- A block for deferred calls. -/
theorem Sim.newDfr (S : Sim base w0 σ H w) : σ.le (σ.woth fun b => if b = w.heap.size then some false else σ.oth b) ∧ σ.oth w.heap.size = none ∧ Sim base w0 (σ.woth fun b => if b = w.heap.size then some false else σ.oth b) H (w.alloc (.deferred (some []))) := by
  have hno : σ.oth w.heap.size = none := by
    cases h : σ.oth w.heap.size with
    | none => rfl
    | some k => have := (S.oths _ _ h).2.lt; omega
  have hle : σ.le (σ.woth fun b => if b = w.heap.size then some false else σ.oth b) := by
    refine ⟨fun b r d n h => ⟨h, Nat.le_refl _, fun _ => rfl⟩, fun _ _ _ _ _ _ => rfl, fun _ _ h => h, fun b k h => ?_⟩
    simp only [Inj.woth]
    rw [if_neg (fun e => by rw [e, hno] at h; cases h)]
    exact h
  have hk := (KeepsOthers.alloc w (.deferred (some []))).same
  have hold : ∀ b, b < w.heap.size → (w.alloc (.deferred (some []))).heap[b]? = w.heap[b]? := fun b hb => Below.heap_alloc _ _ _ hb
  have hsz : (w.alloc (.deferred (some []))).heap.size = w.heap.size + 1 := by simp
  have hS := S.size
  refine ⟨hle, hno, S.below.alloc S.size _, by omega, fun b r d n h => ?_, fun r b h => ?_, fun r c v s ro h => ?_, fun r l h => ?_, fun r g c h => (S.gvars r g c h).mono hle, S.loops_of hle hk (fun _ _ _ _ h => h), fun b k h => ?_, S.minj⟩
  · have := S.lt b r d n h; exact ⟨this.1, by omega⟩
  · have := S.mlt r b h; exact ⟨this.1, by omega⟩
  · have R := S.rows r c v s ro h
    refine ⟨R.ver, R.fin, ?_, fun b d n hf => ?_⟩
    · obtain ⟨d, n, h1, h2⟩ := R.new
      exact ⟨d, n, h1, fun p u hp => (h2 p u hp).mono hle (fun k _ => World.cell?_of_block (w := w) (hold _ (S.lt _ _ _ _ h1).2))⟩
    · obtain ⟨g0, ⟨c1, e1, f1, g1, g2, g3⟩, g4⟩ := R.all b d n hf
      have hb := (S.lt _ _ _ _ hf).2
      exact ⟨g0, ⟨c1, e1, f1, by rw [hold _ hb]; exact g1, g2, g3⟩, fun p u hp hu => (g4 p u hp hu).mono hle (fun k _ => World.cell?_of_block (w := w) (hold _ hb))⟩
  · obtain ⟨b, es, clock, g1, g2, g3, g4⟩ := (S.maps r l h).at_
    exact ⟨b, es, clock, g1, g2, by rw [hold _ (S.mlt _ _ g1).2]; exact g3, g4.mono hle⟩
  · simp only [Inj.woth] at h
    split at h
    · rename_i e; cases h; subst e; exact ⟨S.size, World.alloc_heap_new _ _⟩
    · exact ⟨(S.oths b k h).1, (S.oths b k h).2.mono hk⟩

def Inj.addLoop (σ : Inj) (r b : Nat) : Inj := { σ with mapAt := fun x => if x = r then some b else σ.mapAt x, oth := fun x => if x = b then some true else σ.oth x }
/-- A loop's record. -/
theorem Sim.newLoop (S : Sim base w0 σ H w) {R : Loop} {L : LR} (hs : R.state = .ready) (hp : R.pending = none) (h6 : R.tmps.size = L.nt) (h7 : R.params = L.ps) (h8 : R.assign = L.assign) (h9 : R.body = L.body) (h10 : ∀ t, RelV σ (eget L.e t) (R.tmps.getD t undef)) :
    σ.le (σ.addLoop H.length w.heap.size) ∧ Sim base w0 (σ.addLoop H.length w.heap.size) (H ++ [.loop .ready .normal L]) (w.alloc (.loop R)) := by
  have hno : σ.oth w.heap.size = none := by
    cases h : σ.oth w.heap.size with
    | none => rfl
    | some k => have := (S.oths _ _ h).2.lt; omega
  have hle : σ.le (σ.addLoop H.length w.heap.size) := by
    refine ⟨fun b r d n h => ⟨h, Nat.le_refl _, fun _ => rfl⟩, fun _ _ _ _ _ _ => rfl, fun r b h => ?_, fun b k h => ?_⟩
    · have := (S.mlt r b h).1
      simp only [Inj.addLoop]
      rw [if_neg (by omega)]
      exact h
    · simp only [Inj.addLoop]
      rw [if_neg (fun e => by rw [e, hno] at h; cases h)]
      exact h
  have hk := (KeepsOthers.alloc w (.loop R)).same
  have hold : ∀ b, b < w.heap.size → (w.alloc (.loop R)).heap[b]? = w.heap[b]? := fun b hb => Below.heap_alloc _ _ _ hb
  have hsz : (w.alloc (.loop R)).heap.size = w.heap.size + 1 := by simp
  have hS := S.size
  have hget : ∀ (q : Nat) (o : AObj), (H ++ [AObj.loop .ready .normal L])[q]? = some o → (q = H.length ∧ o = .loop .ready .normal L) ∨ (q < H.length ∧ H[q]? = some o) := by
    intro q o h
    rcases Nat.lt_or_ge q H.length with hq | hq
    · rw [List.getElem?_append_left hq] at h; exact .inr ⟨hq, h⟩
    · rw [List.getElem?_append_right hq] at h
      rcases Nat.lt_or_ge (q - H.length) 1 with h1 | h1
      · have e : q - H.length = 0 := by omega
        rw [e] at h; simp at h
        exact .inl ⟨by omega, h.symm⟩
      · rw [List.getElem?_eq_none (by simpa using h1)] at h; cases h
  refine ⟨hle, S.below.alloc S.size _, by omega, fun b r d n h => ?_, fun r b h => ?_, fun r c v s ro h => ?_, fun r l h => ?_, fun r g c h => ?_, fun r s pe L2 h => ?_, fun b k h => ?_, fun r r' b h h' => ?_⟩
  · have := S.lt b r d n h; rw [List.length_append]; exact ⟨by omega, by omega⟩
  · rw [List.length_append]
    simp only [Inj.addLoop] at h
    split at h
    · rename_i e; cases h; simp; omega
    · have := S.mlt r b h; exact ⟨by omega, by omega⟩
  · rcases hget _ _ h with ⟨-, e⟩ | ⟨-, h⟩
    · cases e
    have R := S.rows r c v s ro h
    refine ⟨R.ver, R.fin, ?_, fun b d n hf => ?_⟩
    · obtain ⟨d, n, h1, h2⟩ := R.new
      exact ⟨d, n, h1, fun p u hp => (h2 p u hp).mono hle (fun k _ => World.cell?_of_block (w := w) (hold _ (S.lt _ _ _ _ h1).2))⟩
    · obtain ⟨g0, ⟨c1, e1, f1, g1, g2, g3⟩, g4⟩ := R.all b d n hf
      have hb := (S.lt _ _ _ _ hf).2
      exact ⟨g0, ⟨c1, e1, f1, by rw [hold _ hb]; exact g1, g2, g3⟩, fun p u hp hu => (g4 p u hp hu).mono hle (fun k _ => World.cell?_of_block (w := w) (hold _ hb))⟩
  · rcases hget _ _ h with ⟨-, e⟩ | ⟨-, h⟩
    · cases e
    obtain ⟨b, es, clock, g1, g2, g3, g4⟩ := (S.maps r l h).at_
    exact ⟨b, es, clock, hle.map _ _ g1, g2, by rw [hold _ (S.mlt _ _ g1).2]; exact g3, g4.mono hle⟩
  · rcases hget _ _ h with ⟨-, e⟩ | ⟨-, h⟩
    · cases e
    · exact (S.gvars r g c h).mono hle
  · rcases hget _ _ h with ⟨rfl, e⟩ | ⟨-, h⟩
    · cases e
      exact ⟨w.heap.size, R, by simp [Inj.addLoop], S.size, World.alloc_heap_new _ _, hs, hp, h6, h7, h8, h9, fun t => (h10 t).mono hle, by simp [Inj.addLoop]⟩
    · exact (S.loops _ _ _ _ h).mono hle hk
  · simp only [Inj.addLoop] at h
    split at h
    · rename_i e; cases h; subst e; exact ⟨S.size, _, World.alloc_heap_new _ _⟩
    · exact ⟨(S.oths b k h).1, (S.oths b k h).2.mono hk⟩
  · simp only [Inj.addLoop] at h h'
    split at h
    · rename_i e
      cases h
      split at h'
      · rename_i e'; rw [e, e']
      · have := (S.mlt _ _ h').2; omega
    · split at h'
      · cases h'
        have := (S.mlt _ _ h).2; omega
      · exact S.minj _ _ _ h h'
end

section
variable {P : Program} {nt : Nat} {e : Env} {H : AH}

/-- The statement 'for .. := range f { .. }'. -/
theorem AW_rangeFunc' {e0 : Env} {g : Operand} {ps : Array Tmp} {assign body : Code} {Q : Ex → Env → AH → Prop} {f : FuncId} {caps : List AV} (hg : oval e0 g = .func (.func f) [] caps) (hok : okFn P f = true) (hee : ∀ (σ : Inj) (a : Act), ERel σ nt e0 a → ERel σ nt e a)
    (h : AC P f (.yld H.length :: caps) (H ++ [.loop .ready .normal ⟨nt, e, ps, assign, body⟩]) fun _ H' => ∃ s pe L, H'[H.length]? = some (.loop s pe L) ∧ s ≠ .busy ∧ Q pe e (H'.set H.length (.loop .exhausted pe L))) :
    AW P nt (.rangeFunc g ps assign body) e0 H Q := fun ro base w0 σ w a ho S hr0 => by
  refine wpIn_rangeFunc fun fn _ => ?_
  have hgc := oval_rel hr0 g
  have hr := hee σ a hr0
  rw [hg] at hgc
  generalize hgv : a.eval g = gv at hgc
  cases hgc with
  | func _ h1 h2 =>
  rename_i f2 c2
  have hf2 : f2 = #[] := by cases f2 with | mk l => cases l with | nil => rfl | cons x l => cases h1
  subst hf2
  -- what follows, however the record came to be
  have key : ∀ (l : Nat) (mark : List Deferred) (σ1 : Inj) (w1 : World) (R : Loop), σ.le σ1 → Sim base w0 σ1 (H ++ [.loop .ready .normal ⟨nt, e, ps, assign, body⟩]) w1 → σ1.mapAt H.length = some l → Marks σ σ1 a.defers { a with defers := mark ++ a.defers } →
      (Instr.enterLoop fn a.tmps ps assign body (fc ro).round).run P w = .ok (l, mark) w1 →
      ∃ (l : Nat) (mark : List Deferred) (w₁ : World) (d : Deferred) (w₁' : World) (f : FuncId) (args : Array Value) (w₂ : World),
      (Instr.enterLoop fn a.tmps ps assign body (fc ro).round).run P w = .ok (l, mark) w₁ ∧
      (resolve a.eval (rangeCall g l) 0).run P w₁ = .ok d w₁' ∧
      (∀ f', Target.leads P w₁' d.target d.args = some f' → (fc ro).fn f') ∧
      (invoke d.target d.args).run P w₁' = .ok (.enter f args) w₂ ∧
      ((fc ro).depth.isSome = true → 1 ≤ 0) ∧
      CallsIn (fc ro) (0 - 1) P f args w₂ (rangePost (fc ro) 0 P l (AWPost base w0 nt σ a.defers Q) { a with defers := mark ++ a.defers }) := by
    intro l mark σ1 w1 R hle S1 hmap hmk hent
    refine ⟨l, mark, w1, { target := .fn (.func f) c2, args := #[.func (.yield l) #[] #[]] }, w1, f, #[.func (.yield l) #[] #[]] ++ c2, w1, hent, ?_, fun _ _ => trivial, ?_, fun h => by simp [fc, Fence.wide] at h, ?_⟩
    · simp only [resolve, hgv]
      simp [Deferred.ofValue, Act.eval]
    · simp [invoke, run_callFunc hok]
    · have hargs : RelVs σ1 (.yld H.length :: caps) (#[Value.func (.yield l) #[] #[]] ++ c2).toList := by
        rw [Array.toList_append]
        exact .cons (.yld hmap) (RelVs.mono hle h2)
      refine fc_calls ((h base w0 σ1 w1 _ S1 hargs).mono ?_)
      rintro en w2 ⟨c, σ2, v, H', rfl, k1, k2, k3, s, pe, L', hrow, hs, hq⟩
      obtain ⟨b, R2, g1, g2, g3, g4, g5, -⟩ := (k2.loops _ _ _ _ hrow).at_
      have : b = l := by have := k1.map _ _ hmap; rw [g1] at this; cases this; rfl
      subst this
      have hend := run_endLoop (P := P) g3 (by rw [g4]; exact hs)
      have hS3 := k2.setLoop hrow g1 g3 .exhausted pe
      have hE : ERel σ2 nt e { a with defers := mark ++ a.defers } := ⟨hr.1, trivial, fun t => ((hr.2.2 t).mono hle).mono k1⟩
      have hM : Marks σ σ2 a.defers { a with defers := mark ++ a.defers } := by
        obtain ⟨new, e1, e2, e3⟩ := hmk
        exact ⟨new, e1, e2, fun D hD => ⟨k1.oth _ _ (e3 D hD).1, (e3 D hD).2⟩⟩
      refine ⟨_, _, hend, ?_⟩
      rw [g5]
      cases pe with
      | normal => exact ⟨.normal, σ2, e, _, rfl, hle.trans k1, hS3, hE, hM, hq⟩
      | exit i => exact wpIn_exit ⟨.exit i, σ2, e, _, rfl, hle.trans k1, hS3, hE, hM, hq⟩
      | goto i => exact wpIn_goto ⟨.goto i, σ2, e, _, rfl, hle.trans k1, hS3, hE, hM, hq⟩
      | ret => exact wpIn_ret ⟨.ret, σ2, e, _, rfl, hle.trans k1, hS3, hE, hM, hq⟩
  cases ro with
  | none =>
    obtain ⟨q1, q2, q3⟩ := S.newDfr
    have hsz : (w.alloc (.deferred (some []))).heap.size = w.heap.size + 1 := by simp
    obtain ⟨q4, q5⟩ := q3.newLoop (R := { state := .ready, pending := none, fn, tmps := a.tmps, params := ps, assign, body, defers := w.heap.size }) (L := ⟨nt, e, ps, assign, body⟩) rfl rfl hr.1 rfl rfl rfl (fun t => (hr.2.2 t).mono q1)
    rw [hsz] at q4 q5
    refine key (w.heap.size + 1) [{ target := .collected w.heap.size, args := #[] }] _ _ { state := .ready, pending := none, fn, tmps := a.tmps, params := ps, assign, body, defers := w.heap.size } (q1.trans q4) q5 (by simp [Inj.addLoop]) ⟨[w.heap.size], rfl, by simp, fun D hD => ?_⟩ (run_enterLoop_outer _ _ _ _ _)
    simp at hD; subst hD
    exact ⟨by simp [Inj.addLoop, Inj.woth], q2⟩
  | some l0 =>
    obtain ⟨-, R0, hR0⟩ := S.oths l0 true (ho l0 rfl)
    obtain ⟨q4, q5⟩ := S.newLoop (R := { state := .ready, pending := none, fn, tmps := a.tmps, params := ps, assign, body, defers := R0.defers }) (L := ⟨nt, e, ps, assign, body⟩) rfl rfl hr.1 rfl rfl rfl hr.2.2
    exact key w.heap.size [] _ _ { state := .ready, pending := none, fn, tmps := a.tmps, params := ps, assign, body, defers := R0.defers } q4 q5 (by simp [Inj.addLoop]) (.refl _ _ a) (run_enterLoop_inner hR0 _ _ _ _ _)

theorem AW_rangeFunc {g : Operand} {ps : Array Tmp} {assign body : Code} {Q : Ex → Env → AH → Prop} {f : FuncId} {caps : List AV} (hg : oval e g = .func (.func f) [] caps) (hok : okFn P f = true)
    (h : AC P f (.yld H.length :: caps) (H ++ [.loop .ready .normal ⟨nt, e, ps, assign, body⟩]) fun _ H' => ∃ s pe L, H'[H.length]? = some (.loop s pe L) ∧ s ≠ .busy ∧ Q pe e (H'.set H.length (.loop .exhausted pe L))) :
    AW P nt (.rangeFunc g ps assign body) e H Q := AW_rangeFunc' hg hok (fun _ _ hr => hr) h
/-- The same; some temporaries alone are kept. -/
theorem AW_rangeFunc_keep (ks : List Nat) {g : Operand} {ps : Array Tmp} {assign body : Code} {Q : Ex → Env → AH → Prop} {f : FuncId} {caps : List AV} (hg : oval e g = .func (.func f) [] caps) (hok : okFn P f = true)
    (h : AC P f (.yld H.length :: caps) (H ++ [.loop .ready .normal ⟨nt, ekeep ks e, ps, assign, body⟩]) fun _ H' => ∃ s pe L, H'[H.length]? = some (.loop s pe L) ∧ s ≠ .busy ∧ Q pe (ekeep ks e) (H'.set H.length (.loop .exhausted pe L))) :
    AW P nt (.rangeFunc g ps assign body) e H Q := AW_rangeFunc' hg hok (fun _ _ hr => hr.keep ks) h

/-! ### Rounds -/
def psEnv : List Nat → List AV → Env → Env
  | p :: ps, v :: vs, e => psEnv ps vs (eset e p v)
  | _, _, e => e
/-- One round of the loop whose record is row r. -/
def AYld (P : Program) (r : Nat) (args : List AV) (H : AH) (K : AV → AH → Prop) : Prop :=
  ∃ pe L, H[r]? = some (.loop .ready pe L) ∧ args.length = L.ps.size ∧ (L.ps.all fun p => decide (p < L.nt)) = true ∧
    AW P L.nt L.assign (psEnv L.ps.toList args L.e) H fun x e1 H1 => x = .normal ∧ ∃ pe1 L1, H1[r]? = some (.loop .ready pe1 L1) ∧
      AW P L.nt L.body e1 (H1.set r (.loop .busy pe1 L1)) fun x2 _ H2 => ∃ s2 pe2 L2, H2[r]? = some (.loop s2 pe2 L2) ∧ K (.bool (decide (x2 = .normal))) (H2.set r (.loop (if x2 = .normal then .ready else .done) x2 L2))

theorem psEnv_rel {σ : Inj} {nt : Nat} : ∀ {ps : List Nat} {vs : List AV} {cs : List Value} {e : Env} {tmps : Array Value} {ds : List Deferred}, (∀ p ∈ ps, p < nt) → RelVs σ vs cs → ERel σ nt e { tmps, defers := ds } →
    ERel σ nt (psEnv ps vs e) { tmps := (ps.zip cs).foldl (fun tmps x => tmps.setIfInBounds x.1 x.2) tmps, defers := ds }
  | [], _, _, e, tmps, ds, _, _, hE => by simpa [psEnv] using hE
  | p :: ps, _, _, e, tmps, ds, _, .nil, hE => by simpa [psEnv] using hE
  | p :: ps, _, _, e, tmps, ds, hp, .cons h1 h2, hE => by
    simp only [psEnv, List.zip_cons_cons, List.foldl_cons]
    have := hE.put (t := p) (hp p (by simp)) h1
    exact psEnv_rel (fun q hq => hp q (by simp [hq])) h2 this

def opYld (ρ : Operand → AV) : Op → Option (Nat × List AV)
  | .call { callee := .value g, args, .. } => match ρ g with
    | .yld r => some (r, args.toList.map ρ)
    | _ => none
  | _ => none

theorem opYld_sound {σ : Inj} {ρ : Operand → AV} {ρc : Operand → Value} (hρ : ∀ x, RelV σ (ρ x) (ρc x)) {o : Oper} {r : Nat} {args : List AV} (h : opYld ρ o.op = some (r, args)) :
    ∃ (l : Nat) (cargs : Array Value), σ.mapAt r = some l ∧ RelVs σ args cargs.toList ∧ (∀ w, (execOp ρc o).run P w = (Instr.yield l cargs).run P w) ∧ ∀ c, o.op ≠ .defer c := by
  unfold opYld at h
  unfold execOp
  split at h <;> first | (cases h; done) | skip
  rename_i g as ts heq
  rw [heq]; simp only []
  have hg := hρ g
  split at h
  case h_2 => cases h
  rename_i r' hv
  rw [hv] at hg
  cases h
  generalize hc : ρc g = c at hg
  cases hg with
  | yld hm =>
    rename_i b
    refine ⟨b, as.map ρc, hm, by rw [Array.toList_map]; exact RelVs.of_ops hρ _, fun w => ?_, fun c hc => by cases hc⟩
    simp [resolve, hc, Deferred.ofValue, invoke]

theorem AO_yield {ops : Array Oper} {Q : Env → AH → Prop} {o : Oper} {rest : List Oper} {r : Nat} {args : List AV} (hw : wantedA ops e o = some true) (hc : opYld (oval e) o.op = some (r, args)) (hd : dstOk nt o.dst = true)
    (h : AYld P r args H fun v H' => AO P nt ops rest (putDst e o.dst (some v)) H' Q) : AO P nt ops (o :: rest) e H Q := fun ro base w0 σ w a ho S hr => by
  obtain ⟨pe, L, hrow, hlen, hps, hA⟩ := h
  obtain ⟨l, cargs, hmap, hargs, hex, hnd⟩ := opYld_sound (P := P) (oval_rel hr) hc
  refine wpListIn_wanted (wantedA_sound hr hw) (oper_of hnd ?_)
  rw [hex]
  obtain ⟨b, R, h1, h2, h3, h4, h5, h6, h7, h8, h9, h10, h11⟩ := (S.loops _ _ _ _ hrow).at_
  rw [hmap] at h1; cases h1
  have hsz : cargs.size = R.params.size := by rw [h7, ← hlen, hargs.length]; simp
  rw [run_yield h3 hsz]
  simp only [Oper.uponIn]
  refine ⟨fun h => by simp [fc, Fence.wide] at h, roundIn_of_wpIn trivial ?_⟩
  have hF : (fc ro).inRound l = fc (some l) := rfl
  rw [hF, h8, h9]
  have hE0 : ERel σ L.nt (psEnv L.ps.toList args L.e) { tmps := (R.params.zip cargs).foldl (fun tmps x => tmps.setIfInBounds x.1 x.2) R.tmps, defers := [] } := by
    rw [← Array.foldl_toList, Array.toList_zip, h7]
    exact psEnv_rel (fun p hp => by
      rw [Array.all_eq_true'] at hps
      simpa using hps p (by simpa using hp)) hargs ⟨h6, trivial, h10⟩
  refine wpIn_mono (hA (some l) base w0 σ w _ (fun k e => by cases e; exact h11) S hE0) ?_
  rintro ex a1 w1 ⟨x, σ1, e1, H1, rfl, k2, k3, k4, k5, rfl, pe1, L1, hrow1, hB⟩
  obtain ⟨b1, R1, g1, g2, g3, g4, g5, g6, g7, g8, g9, g10, g11⟩ := (k3.loops _ _ _ _ hrow1).at_
  have hb1 : b1 = l := by have := k2.map _ _ hmap; rw [g1] at this; cases this; rfl
  subst hb1
  refine ⟨_, run_beginRound g3 g4, ?_⟩
  have hS2 := k3.setLoop hrow1 g1 g3 .busy pe1
  have hsame : ({ R1 with state := .busy, pending := pe1.code } : Loop) = { R1 with state := .busy } := by rw [← g5]
  rw [hsame] at hS2
  refine wpIn_mono (hB (some b1) base w0 σ1 _ a1 (fun k e => by cases e; exact g11) hS2 k4) ?_
  rintro ex2 a2 w2 ⟨x2, σ2, e2, H2, rfl, m2, m3, m4, m5, s2, pe2, L2, hrow2, hK⟩
  obtain ⟨b2, R2, f1, f2, f3, f4, f5, f6, f7, f8, f9, f10, f11⟩ := (m3.loops _ _ _ _ hrow2).at_
  have hb2 : b2 = b1 := by have := m2.map _ _ g1; rw [f1] at this; cases this; rfl
  subst hb2
  have fin : ∀ (b : Bool) (s' : LoopState), x2.code.isNone = b → s' = (if b then .ready else .done) → decide (x2 = .normal) = b → (if x2 = .normal then LoopState.ready else .done) = s' →
      ∃ v w', (Instr.endRound b2 x2.code).run P w2 = .ok v w' ∧ wpListIn (fc ro) 0 P ops (AWPost base w0 nt σ a.defers fun x e H => x = .normal ∧ Q e H) rest (a.put o.dst v) w' := by
    intro b s' hb hs' hx hst
    refine ⟨_, _, run_endRound x2.code f3, ?_⟩
    rw [hb]
    have hS3 := m3.setLoop hrow2 f1 f3 s' x2
    rw [hs'] at hS3
    rw [hx, hst, hs'] at hK
    exact wpListIn_mono (fun _ _ _ h => h.after (k2.trans m2)) rest _ _ (hK ro base w0 σ2 _ _ (ho.mono (k2.trans m2)) hS3 ((hr.mono (k2.trans m2)).putDst hd (fun u hu => by cases hu; exact .bool _)))
  cases x2 with
  | normal => exact fin true .ready rfl rfl rfl rfl
  | exit i => exact fin false .done rfl rfl rfl rfl
  | goto i => exact fin false .done rfl rfl rfl rfl
  | ret => exact fin false .done rfl rfl rfl rfl
end
end Go.Proofs.Ytjfmiohgkcjdnaa.AX
