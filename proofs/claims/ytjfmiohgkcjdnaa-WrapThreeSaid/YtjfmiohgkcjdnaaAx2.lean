/- A plain reading of runs: a statement whose order is open, whose last operation follows all others. -/
import Derived.Test.YtjfmiohgkcjdnaaAxK
namespace Go.Proofs.Ytjfmiohgkcjdnaa.AX
open Go Go.RowKit
section
variable {P : Program} {nt : Nat} {ops : Array Oper} {l : List Oper}
variable {e e' : Env} {H H' : AH} {tr : List Rec}

theorem rowsL_back (hT : Trace P nt ops l e H tr e' H') (i : Nat) : ∀ m, i ≤ m → m ≤ l.length → rowsAt tr H' m = rowsAt tr H' i ∨
    ∃ j p s, i ≤ j ∧ j < m ∧ l[j]? = some p ∧ tr[j]? = some s ∧ isW p.op = true ∧ rowsAt tr H' m = s.H' := by
  intro m
  induction m with
  | zero => intro h _; left; rw [show i = 0 by omega]
  | succ m ih =>
    intro h1 h2
    rcases Nat.lt_or_ge m i with h3 | h3
    · left; rw [show i = m + 1 by omega]
    · have hl : tr.length = l.length := hT.length
      have hm : m < tr.length := by omega
      have hr : tr[m]? = some tr[m] := List.getElem?_eq_getElem hm
      have ho : l[m]? = some l[m] := List.getElem?_eq_getElem (by omega)
      have hn := hT.next m _ hr
      by_cases hw : isW l[m].op = true
      · exact .inr ⟨m, _, _, h3, by omega, ho, hr, hw, hn⟩
      · have hs := (hT.did m _ _ ho hr).same (by simpa using hw)
        have h0 : rowsAt tr H' m = tr[m].H := by simp [rowsAt, hr]
        rw [hn, hs, ← h0]
        rcases ih h3 (by omega) with h4 | ⟨j, p, s, g1, g2, g3⟩
        · exact .inl h4
        · exact .inr ⟨j, p, s, g1, by omega, g3⟩

theorem rowsL_fwd (hT : Trace P nt ops l e H tr e' H') : ∀ (d m i : Nat), i = m + d → i ≤ l.length → rowsAt tr H' m = rowsAt tr H' i ∨
    ∃ j p s, m ≤ j ∧ j < i ∧ l[j]? = some p ∧ tr[j]? = some s ∧ isW p.op = true ∧ rowsAt tr H' m = s.H := by
  intro d
  induction d with
  | zero => intro m i h _; left; rw [h]; rfl
  | succ d ih =>
    intro m i h1 h2
    have hl : tr.length = l.length := hT.length
    have hm : m < tr.length := by omega
    have hr : tr[m]? = some tr[m] := List.getElem?_eq_getElem hm
    have ho : l[m]? = some l[m] := List.getElem?_eq_getElem (by omega)
    have hn := hT.next m _ hr
    have h0 : rowsAt tr H' m = tr[m].H := by simp [rowsAt, hr]
    by_cases hw : isW l[m].op = true
    · exact .inr ⟨m, _, _, Nat.le_refl _, by omega, ho, hr, hw, h0⟩
    · have hs := (hT.did m _ _ ho hr).same (by simpa using hw)
      rw [h0, ← hs, ← hn]
      rcases ih (m + 1) i (by omega) h2 with h4 | ⟨j, p, s, g1, g2, g3⟩
      · exact .inl h4
      · exact .inr ⟨j, p, s, by omega, g2, g3⟩

/-- What holds on the way to the last operation, whatever the order. -/
structure InvL (P : Program) (nt : Nat) (ops : Array Oper) (l : List Oper) (tr : List Rec) (H' : AH) (e : Env) (base : Nat) (w0 : World) (σ : Inj) (ds : List Deferred) (listed : Array Bool) (a : Act) (w : World) : Prop where
  defs : a.defers = ds
  open_ : listed.getD l.length false = false
  size : listed.size = ops.size
  closed : Closed ops fun i => listed.getD i false
  st : ∃ m σ', m ≤ l.length ∧ (∀ (j : Nat) (p : Oper), l[j]? = some p → isW p.op = true → (listed.getD j false = true ↔ j < m)) ∧ σ.le σ' ∧ Sim base w0 σ' (rowsAt tr H' m) w ∧
    ERel σ' nt (foldD l tr (fun i => listed.getD i false) 0 e) a

/-- What is read is the same ahead of and behind each operation that writes memory and stands in no order to the reading: up to the last operation. -/
def readsL (P : Program) (ops : Array Oper) (l : List Oper) (tr : List Rec) : Prop :=
  ∀ (i j : Nat) (o p : Oper) (r s : Rec), l[i]? = some o → l[j]? = some p → tr[i]? = some r → tr[j]? = some s → isR o.op = true → isW p.op = true → wantedA ops r.e o = some true →
    anc (masks ops.toList []) i j = false → anc (masks ops.toList []) j i = false → execN P (oval r.e) s.H o.op = some (r.v, s.H) ∧ execN P (oval r.e) s.H' o.op = some (r.v, s.H')

theorem draw_mainL {oL : Oper} {QE : Env → AH → Prop} (hops : ops.toList = l ++ [oL]) (hT : Trace P nt ops l e H tr e' H') (hord : ordOK ops = true) (hrd : readsL P ops l tr) (hanc : ∀ i, i < l.length → anc (masks ops.toList []) l.length i = true)
    (hlast : AO P nt ops [oL] e' H' QE) {ro : Option Nat} {ds : List Deferred} {base : Nat} {w0 : World} {σ : Inj} (hro : RoOk ro σ) : ∀ (fuel : Nat) (listed : Array Bool) (a : Act) (w : World), unl ops.size listed ≤ fuel →
    InvL P nt ops l tr H' e base w0 σ ds listed a w → wpAnyIn (fc ro) 0 P .any ops (AWPost base w0 nt σ ds fun x e2 H2 => x = .normal ∧ QE e2 H2) fuel listed a w := by
  have hl : tr.length = l.length := hT.length
  have hsize : ops.size = l.length + 1 := by rw [← Array.length_toList, hops]; simp
  have hlo : ∀ (j : Nat) (p : Oper), l[j]? = some p → ops[j]? = some p := fun j p hj => by
    rw [← Array.getElem?_toList, hops, List.getElem?_append_left (List.getElem?_eq_some_iff.1 hj).1]; exact hj
  have hol' : ∀ (j : Nat) (p : Oper), j < l.length → ops[j]? = some p → l[j]? = some p := fun j p hlt hj => by
    rw [← Array.getElem?_toList, hops, List.getElem?_append_left hlt] at hj; exact hj
  have hk : ops[l.length]? = some oL := by
    rw [← Array.getElem?_toList, hops, List.getElem?_append_right (Nat.le_refl _)]; simp
  have hready : ∀ (listed : Array Bool), listed.size = ops.size → Region.ready .any ops listed = [] → ∀ i, i < ops.size → listed.getD i false = true := by
    intro listed hsz hr i
    induction i using Nat.strongRecOn with
    | _ i ih =>
      intro hi
      by_cases hd : listed.getD i false = true
      · exact hd
      · exfalso
        have ho : ops[i]? = some ops[i] := Array.getElem?_eq_getElem hi
        have : i ∈ Region.ready .any ops listed := by
          rw [mem_ready]
          refine ⟨?_, ops[i], ho, fun e he hb => ?_⟩
          · have h1 : i < listed.size := by omega
            simp [h1] at hd ⊢
            exact hd
          · have := ord_edge hord ho he hb
            exact ih e.on this (by omega)
        rw [hr] at this; simp at this
  intro fuel
  induction fuel with
  | zero =>
    intro listed a w hu I
    exfalso
    unfold unl at hu
    have hnil : ((List.range ops.size).filter fun i => !listed.getD i false) = [] := List.eq_nil_of_length_eq_zero (by omega)
    rw [List.filter_eq_nil_iff] at hnil
    have := hnil l.length (by simp; omega)
    rw [I.open_] at this
    simp at this
  | succ fuel ih =>
    intro listed a w hu I
    refine ⟨fun hr => (by have := hready listed I.size hr l.length (by omega); rw [I.open_] at this; cases this), fun i hi => ?_⟩
    rw [mem_ready] at hi
    obtain ⟨h1, o, ho, hafter⟩ := hi
    have hlt : i < ops.size := (Array.getElem?_eq_some_iff.1 ho).1
    have hltl : i < listed.size := by rw [I.size]; exact hlt
    have hDi : listed.getD i false = false := by simp [hltl] at h1 ⊢; exact h1
    obtain ⟨m, σ1, hm, hw, hle, hS, hE⟩ := I.st
    by_cases hil : i = l.length
    · subst hil
      rw [hk] at ho
      cases ho
      have hset := getD_set (listed := listed) hltl
      have hclosed1 : Closed ops fun x => (listed.setIfInBounds l.length true).getD x false := by
        intro x p hp hx e' he' hb
        simp only [hset, Bool.or_eq_true] at hx ⊢
        rcases hx with hx | hx
        · exact .inl (I.closed x p hp hx e' he' hb)
        · simp at hx; subst hx
          rw [hk] at hp; cases hp
          exact .inl (hafter e' he' hb)
      have hall : ∀ j, j < l.length → listed.getD j false = true := fun j hj => by
        have := anc_closed hclosed1 (hanc j hj) (by simp [hset])
        simp only [hset, Bool.or_eq_true, beq_iff_eq] at this
        exact this.resolve_right (by omega)
      have hrows : rowsAt tr H' m = H' := by
        rcases rowsL_fwd hT (l.length - m) m l.length (by omega) (Nat.le_refl _) with h1 | ⟨j, p, s, g1, g2, g3, g4, g5, _⟩
        · rw [h1]; simp [rowsAt, ← hl]
        · have := (hw j p g3 g5).1 (hall j g2); omega
      have henv : ∀ t, eget (foldD l tr (fun i => listed.getD i false) 0 e) t = eget e' t := by
        intro t
        rw [hT.last 0 (fun _ => true) (fun _ => rfl)]
        refine foldD_agree _ _ _ _ _ _ _ _ (fun j o hj _ => ?_) rfl
        simpa using hall j (List.getElem?_eq_some_iff.1 hj).1
      rw [hrows] at hS
      have hE' : ERel σ1 nt e' a := ⟨hE.1, hE.2.1, fun t => by rw [← henv t]; exact hE.2.2 t⟩
      have hA := hlast ro base w0 σ1 w a (hro.mono hle) hS hE'
      have hQ : ∀ ex a1 w1, AWPost base w0 nt σ1 a.defers (fun x e2 H2 => x = .normal ∧ QE e2 H2) ex a1 w1 → AWPost base w0 nt σ ds (fun x e2 H2 => x = .normal ∧ QE e2 H2) ex a1 w1 := by
        intro ex a1 w1 h
        have := AWPost.mono (σ := σ) (a1 := a) hle (Marks.refl σ σ1 a) (fun _ _ _ h => h) h
        rwa [I.defs] at this
      have hfull : ∀ j, j < ops.size → (listed.setIfInBounds l.length true).getD j false = true := fun j hj => by
        rw [hset]
        by_cases hjl : j = l.length
        · subst hjl; simp
        · rw [hall j (by omega)]; rfl
      have hnone : Region.ready .any ops (listed.setIfInBounds l.length true) = [] := by
        rw [List.eq_nil_iff_forall_not_mem]
        intro j hj
        rw [mem_ready] at hj
        obtain ⟨h1, o, ho, _⟩ := hj
        have hjl : j < ops.size := (Array.getElem?_eq_some_iff.1 ho).1
        have h2 := hfull j hjl
        have h3 : j < (listed.setIfInBounds l.length true).size := by simp [I.size]; exact hjl
        rw [Array.getD_eq_getD_getElem?, Array.getElem?_eq_getElem h3] at h2
        rw [Array.getD_eq_getD_getElem?, Array.getElem?_eq_getElem h3] at h1
        simp only [Option.getD_some] at h1 h2
        rw [h1] at h2; cases h2
      have hK : ∀ a1 w1, AWPost base w0 nt σ1 a.defers (fun x e2 H2 => x = .normal ∧ QE e2 H2) .normal a1 w1 → wpAnyIn (fc ro) 0 P .any ops (AWPost base w0 nt σ ds fun x e2 H2 => x = .normal ∧ QE e2 H2) fuel (listed.setIfInBounds l.length true) a1 w1 := by
        intro a1 w1 h
        cases fuel with
        | zero => exact ⟨hnone, hQ _ _ _ h⟩
        | succ fuel => exact ⟨fun _ => hQ _ _ _ h, fun j hj => by rw [hnone] at hj; cases hj⟩
      unfold wpListIn at hA
      unfold wpOpIn
      simp only [hk]
      split
      · rename_i hwn
        rw [if_pos hwn] at hA
        exact operIn_mono hK hQ hA
      · rename_i hwn
        rw [if_neg hwn] at hA
        exact ⟨hA.1, hK _ _ hA.2⟩
    have hil' : i < l.length := by omega
    have hol : l[i]? = some o := hol' i o hil' ho
    have hr : tr[i]? = some tr[i] := List.getElem?_eq_getElem (by omega)
    generalize hrdef : tr[i] = r at hr
    have hdid := hT.did i o r hol hr
    have hset := getD_set (listed := listed) hltl
    have hclosed1 : Closed ops fun x => (listed.setIfInBounds i true).getD x false := by
      intro x p hp hx e' he' hb
      simp only [hset, Bool.or_eq_true] at hx ⊢
      rcases hx with hx | hx
      · exact .inl (I.closed x p hp hx e' he' hb)
      · simp at hx; subst hx
        rw [ho] at hp; cases hp
        exact .inl (hafter e' he' hb)
    have hle_closed : Closed ops fun x => decide (x ≤ i) := by
      intro x p hp hx e' he' hb
      have := ord_edge hord hp he' hb
      simp at hx ⊢; omega
    have hle_closed' : ∀ j, Closed ops fun x => decide (x ≤ j) := by
      intro j x p hp hx e' he' hb
      have := ord_edge hord hp he' hb
      simp at hx ⊢; omega
    have anc_lt : ∀ j k, anc (masks ops.toList []) j k = true → k ≤ j := fun j k h => by simpa using anc_closed (hle_closed' j) h (by simp)
    have anc_in : ∀ j, j ≠ i → anc (masks ops.toList []) i j = true → listed.getD j false = true := fun j hne h => by
      have := anc_closed hclosed1 h (by simp [hset])
      simp only [hset, Bool.or_eq_true, beq_iff_eq] at this
      exact this.resolve_right hne
    have anc_out : ∀ j, anc (masks ops.toList []) j i = true → listed.getD j false = false := fun j h => by
      cases hd : listed.getD j false with
      | false => rfl
      | true => have := anc_closed I.closed h hd; rw [hDi] at this; cases this
    -- operations in order to i
    have hcmp : ∀ j p, ops[j]? = some p → j ≠ i → (anc (masks ops.toList []) i j = true ∨ anc (masks ops.toList []) j i = true) → (listed.getD j false = true ↔ j < i) := by
      intro j p hp hne h
      rcases h with h | h
      · have a1 := anc_in j hne h
        have a2 := anc_lt i j h
        simp [a1]; omega
      · have a1 := anc_out j h
        have a2 := anc_lt j i h
        simp [a1]; omega
    have hagree : ∀ t ∈ opNames ops o, eget (foldD l tr (fun i => listed.getD i false) 0 e) t = eget r.e t := by
      intro t ht
      rw [hT.envs 0 i r hr]
      refine foldD_agree _ _ _ _ _ _ _ _ (fun j p hj hd => ?_) rfl
      have hp : ops[j]? = some p := hlo j p hj
      simp only [Nat.zero_add]
      by_cases hji : j = i
      · subst hji; simp; simpa using hDi
      · rcases ord_pair hord ho hp (Ne.symm hji) with h | h | h
        · have := hcmp j p hp hji (.inl h); rw [Bool.eq_iff_iff]; simpa using this
        · have := hcmp j p hp hji (.inr h); rw [Bool.eq_iff_iff]; simpa using this
        · exact absurd ht (h.2 t hd)
    have hupd : ∀ t, eget (foldD l tr (fun x => (listed.setIfInBounds i true).getD x false) 0 e) t =
        eget (putDst (foldD l tr (fun i => listed.getD i false) 0 e) o.dst r.v) t := by
      intro t
      rw [eget_putDst]
      split
      · rename_i hd
        have h2 : eget (foldD l tr (fun x => (listed.setIfInBounds i true).getD x false) 0 e) t = eget (foldD l tr (fun j => decide (j < 0 + i + 1)) 0 e) t := by
          refine foldD_agree _ _ _ _ _ _ _ _ (fun j p hj hdj => ?_) rfl
          have hp : ops[j]? = some p := hlo j p hj
          simp only [Nat.zero_add, hset]
          by_cases hji : j = i
          · subst hji; simp
          · have hb : (j == i) = false := by simpa using hji
            rw [hb, Bool.or_false, Bool.eq_iff_iff]
            have hcm : listed.getD j false = true ↔ j < i := by
              rcases ord_pair hord ho hp (Ne.symm hji) with h | h | h
              · exact hcmp j p hp hji (.inl h)
              · exact hcmp j p hp hji (.inr h)
              · exact absurd (by unfold opNames; simp [hd]) (h.2 t hdj)
            rw [hcm]; simp; omega
        rw [h2, foldD_succ l tr 0 i e o r hol hr, eget_putDst, if_pos hd]
      · rename_i hd
        refine foldD_agree _ _ _ _ _ _ _ _ (fun j p hj hdj => ?_) rfl
        have hp : ops[j]? = some p := hlo j p hj
        simp only [Nat.zero_add, hset]
        by_cases hji : j = i
        · subst hji; rw [ho] at hp; cases hp; exact absurd hdj hd
        · have hb : (j == i) = false := by simpa using hji
          rw [hb, Bool.or_false]
    have hERel : ∀ {σ2 : Inj} {a2 : Act}, ERel σ2 nt (putDst (foldD l tr (fun i => listed.getD i false) 0 e) o.dst r.v) a2 → ERel σ2 nt (foldD l tr (fun x => (listed.setIfInBounds i true).getD x false) 0 e) a2 :=
      fun h => ⟨h.1, h.2.1, fun t => by rw [hupd]; exact h.2.2 t⟩
    have hopen1 : (listed.setIfInBounds i true).getD l.length false = false := by
      rw [hset, I.open_]; simp; omega
    have hu1 : unl ops.size (listed.setIfInBounds i true) ≤ fuel := by
      have : unl ops.size (listed.setIfInBounds i true) < unl ops.size listed := by
        unfold unl
        refine filter_lt (i := i) (fun j hj => ?_) (by simpa using hlt) (by simp [hDi]) (by simp [hset])
        simp only [hset, Bool.not_eq_true', Bool.or_eq_false_iff] at hj ⊢
        exact hj.1
      omega
    have hsz1 : (listed.setIfInBounds i true).size = ops.size := by simp [I.size]
    -- where the rows stand when i writes memory
    have hWrows : isW o.op = true → rowsAt tr H' m = r.H ∧ (∀ (j : Nat) (p : Oper), l[j]? = some p → isW p.op = true → ((listed.setIfInBounds i true).getD j false = true ↔ j < i + 1)) := by
      intro hwi
      have hWj : ∀ (j : Nat) (p : Oper), l[j]? = some p → isW p.op = true → j ≠ i → (listed.getD j false = true ↔ j < i) := by
        intro j p hp hwj hne
        have hp := hlo j p hp
        rcases ord_pair hord ho hp (Ne.symm hne) with h | h | h
        · exact hcmp j p hp hne (.inl h)
        · exact hcmp j p hp hne (.inr h)
        · exact absurd ⟨hwi, hwj⟩ h.1
      constructor
      · have h0 : rowsAt tr H' i = r.H := by simp [rowsAt, hr]
        rw [← h0]
        rcases Nat.lt_or_ge i m with h2 | h2
        · have := (hw i o hol hwi).2 h2; rw [hDi] at this; cases this
        · rcases rowsL_fwd hT (i - m) m i (by omega) (by omega) with h3 | ⟨j, p, s, g1, g2, g3, g4, g5, _⟩
          · exact h3
          · have a1 := (hWj j p g3 g5 (by omega)).2 g2
            have a2 := (hw j p g3 g5).1 a1
            omega
      · intro j p hp hwj
        simp only [hset]
        by_cases hji : j = i
        · subst hji; simp
        · have hb : (j == i) = false := by simpa using hji
          rw [hb, Bool.or_false, hWj j p hp hwj hji]; omega
    have hNrows : isW o.op = false → (∀ (j : Nat) (p : Oper), l[j]? = some p → isW p.op = true → ((listed.setIfInBounds i true).getD j false = true ↔ j < m)) := by
      intro hwi j p hp hwj
      simp only [hset]
      have hji : j ≠ i := by rintro rfl; rw [hol] at hp; cases hp; rw [hwi] at hwj; cases hwj
      have hb : (j == i) = false := by simpa using hji
      rw [hb, Bool.or_false]; exact hw j p hp hwj
    have hn1 : rowsAt tr H' (i + 1) = r.H' := hT.next i r hr
    -- the step
    have hdf : ∀ u, (a.put o.dst u).defers = ds := fun u => by rw [← I.defs]; cases o.dst <;> rfl
    unfold wpOpIn
    simp only [ho]
    have hwant := wantedA_agree (ops := ops) hagree
    rcases hdid with ⟨hw0, hv0, hH0⟩ | ⟨hdst, hw1, hrun⟩
    · rw [if_neg (by rw [wantedA_sound hE (hwant.trans hw0)]; simp)]
      refine ⟨fun _ _ => trivial, ih _ _ _ hu1 ⟨hdf _, hopen1, hsz1, hclosed1, ?_⟩⟩
      have hE2 : ERel σ1 nt (putDst (foldD l tr (fun i => listed.getD i false) 0 e) o.dst r.v) (a.put o.dst undef) := by
        rw [hv0]
        cases hd : o.dst with
        | none => exact hE
        | some t => exact hE.del t undef
      by_cases hwi : isW o.op = true
      · obtain ⟨g1, g2⟩ := hWrows hwi
        exact ⟨i + 1, σ1, by omega, g2, hle, by rw [hn1, hH0, ← g1]; exact hS, hERel hE2⟩
      · exact ⟨m, σ1, hm, hNrows (by simpa using hwi), hle, hS, hERel hE2⟩
    · rw [if_pos (wantedA_sound hE (hwant.trans hw1))]
      have hoval := oval_agree (ops := ops) hagree
      rcases hrun with hx | ⟨f, args, v, hc, hv, hAC⟩
      · -- no call
        have hstep : ∃ m2, m2 ≤ l.length ∧ (∀ (j : Nat) (p : Oper), l[j]? = some p → isW p.op = true → ((listed.setIfInBounds i true).getD j false = true ↔ j < m2)) ∧
            execN P (oval (foldD l tr (fun i => listed.getD i false) 0 e)) (rowsAt tr H' m) o.op = some (r.v, rowsAt tr H' m2) := by
          rw [execN_congr hoval]
          by_cases hwi : isW o.op = true
          · obtain ⟨g1, g2⟩ := hWrows hwi
            exact ⟨i + 1, by omega, g2, by rw [hn1, g1]; exact hx⟩
          · have hwi' : isW o.op = false := by simpa using hwi
            refine ⟨m, hm, hNrows hwi', ?_⟩
            have hsame := execN_same hwi' hx
            by_cases hri : isR o.op = true
            · have h0 : rowsAt tr H' i = r.H := by simp [rowsAt, hr]
              have hbase : rowsAt tr H' m = rowsAt tr H' i → execN P (oval r.e) (rowsAt tr H' m) o.op = some (r.v, rowsAt tr H' m) := by
                intro he; rw [he, h0]; rw [hsame] at hx; exact hx
              rcases Nat.lt_or_ge i m with h2 | h2
              · rcases rowsL_back hT i m (by omega) hm with h3 | ⟨j, p, s, g1, g2, g3, g4, g5, g6⟩
                · exact hbase h3
                · have hji : j ≠ i := by rintro rfl; rw [hol] at g3; cases g3; rw [hwi'] at g5; cases g5
                  have hDj := (hw j p g3 g5).2 g2
                  have n1 : anc (masks ops.toList []) i j = false := by
                    cases hq : anc (masks ops.toList []) i j with
                    | false => rfl
                    | true => have := anc_lt i j hq; omega
                  have n2 : anc (masks ops.toList []) j i = false := by
                    cases hq : anc (masks ops.toList []) j i with
                    | false => rfl
                    | true => have := anc_out j hq; rw [hDj] at this; cases this
                  rw [g6]
                  exact (hrd i j o p r s hol g3 hr g4 hri g5 hw1 n1 n2).2
              · rcases rowsL_fwd hT (i - m) m i (by omega) (by omega) with h3 | ⟨j, p, s, g1, g2, g3, g4, g5, g6⟩
                · exact hbase h3
                · have hji : j ≠ i := by omega
                  have hDj : listed.getD j false = false := by
                    cases hq : listed.getD j false with
                    | false => rfl
                    | true => have := (hw j p g3 g5).1 hq; omega
                  have n1 : anc (masks ops.toList []) i j = false := by
                    cases hq : anc (masks ops.toList []) i j with
                    | false => rfl
                    | true => have := anc_in j hji hq; rw [hDj] at this; cases this
                  have n2 : anc (masks ops.toList []) j i = false := by
                    cases hq : anc (masks ops.toList []) j i with
                    | false => rfl
                    | true => have := anc_lt j i hq; omega
                  rw [g6]
                  exact (hrd i j o p r s hol g3 hr g4 hri g5 hw1 n1 n2).1
            · exact execN_pure hwi' (by simpa using hri) hx _
        obtain ⟨m2, hm2, hw2, hx2⟩ := hstep
        obtain ⟨n, w', σ2, k1, k2, k3, k4⟩ := execN_sound (oval_rel hE) hS hx2
        refine oper_of (execN_nd hx2) ?_
        rw [k1]
        have hE2 := hE.mono k2
        cases hv : r.v with
        | none =>
          rw [hv] at k4
          cases n <;> simp only [NextOk] at k4
          refine ih _ _ _ hu1 ⟨hdf _, hopen1, hsz1, hclosed1, m2, σ2, hm2, hw2, hle.trans k2, k3, hERel ?_⟩
          rw [hv]; exact hE2.putDst hdst (fun u hu => by cases hu)
        | some u =>
          rw [hv] at k4
          cases n <;> simp only [NextOk] at k4
          refine ih _ _ _ hu1 ⟨hdf _, hopen1, hsz1, hclosed1, m2, σ2, hm2, hw2, hle.trans k2, k3, hERel ?_⟩
          rw [hv]; exact hE2.putDst hdst (fun u' hu => by cases hu; exact k4)
      · -- a call
        have hwi := opCall_isW hc
        obtain ⟨g1, g2⟩ := hWrows hwi
        rw [← opCall_congr hoval] at hc
        obtain ⟨cargs, k1, k2⟩ := opCall_sound (oval_rel hE) hc
        refine oper_of (opCall_nd hc) ?_
        rw [k2 w]
        simp only [Oper.uponIn]
        rw [g1] at hS
        refine ⟨fun h => by simp [fc, Fence.wide] at h, fc_calls ((hAC base w0 σ1 w cargs hS k1).mono ?_)⟩
        rintro en w' ⟨c, σ2, v', H2, rfl, q1, q2, q3, rfl, rfl⟩
        refine ih _ _ _ hu1 ⟨hdf _, hopen1, hsz1, hclosed1, i + 1, σ2, by omega, g2, hle.trans q1, by rw [hn1]; exact q2, hERel ?_⟩
        rw [hv]
        exact (hE.mono q1).putDst hdst (fun u' hu => by cases hu; exact q3)

/-- A statement whose order is open: all but the last operation as they are carried out in order; the last one as it may. -/
theorem AW_drawL {id : Nat} {Q : Ex → Env → AH → Prop} {oL : Oper} (hm : P.follows .mixedOrders = true) (ks : List Nat) (hops : ops.toList = l ++ [oL]) (hT : Trace P nt ops l e H tr e' H') (hord : ordOK ops = true) (hrd : readsL P ops l tr)
    (hanc : ∀ i, i < l.length → anc (masks ops.toList []) l.length i = true) (hlast : AO P nt ops [oL] e' H' fun e2 H2 => Q .normal (ekeep ks e2) H2) : AW P nt (.region id ops true) e H Q := fun ro base w0 σ w a ho S hr => by
  refine wpIn_region_any hm ?_
  have hS : Sim base w0 σ H { w with drawn := w.drawn + 1 } := S.drew
  have hz : ∀ j, (Array.replicate ops.size false).getD j false = false := fun j => by
    simp [Array.getD_eq_getD_getElem?, Array.getElem?_replicate]
    split <;> rfl
  have hI : InvL P nt ops l tr H' e base w0 σ a.defers (Array.replicate ops.size false) a { w with drawn := w.drawn + 1 } := by
    refine ⟨rfl, hz _, by simp, fun i o _ h => ?_, 0, σ, by omega, fun j p _ _ => ?_, .refl σ, by rw [hT.first]; exact hS, ?_⟩
    · simp only [hz] at h; cases h
    · rw [hz]; simp
    · rw [foldD_none _ _ _ _ _ (fun j => hz _)]; exact hr
  have hmain := draw_mainL hops hT hord hrd hanc hlast (ro := ro) ho ops.size _ a _ (by unfold unl; exact Nat.le_trans (List.length_filter_le _ _) (by simp)) hI
  have hQ : ∀ ex a1 w, AWPost base w0 nt σ a.defers (fun x e2 H2 => x = .normal ∧ Q .normal (ekeep ks e2) H2) ex a1 w → AWPost base w0 nt σ a.defers Q ex a1 w := by
    rintro ex a w ⟨x, σ', e2, H2, rfl, h2, h3, h4, hmk, rfl, h5⟩
    exact ⟨.normal, σ', _, _, rfl, h2, h3, h4.keep ks, hmk, h5⟩
  have hmono : ∀ (fuel : Nat) (listed : Array Bool) (a1 : Act) (w : World), wpAnyIn (fc ro) 0 P .any ops (AWPost base w0 nt σ a.defers fun x e2 H2 => x = .normal ∧ Q .normal (ekeep ks e2) H2) fuel listed a1 w → wpAnyIn (fc ro) 0 P .any ops (AWPost base w0 nt σ a.defers Q) fuel listed a1 w := by
    intro fuel
    induction fuel with
    | zero => intro listed a w h; exact ⟨h.1, hQ _ _ _ h.2⟩
    | succ fuel ih =>
      intro listed a w h
      refine ⟨fun hr => hQ _ _ _ (h.1 hr), fun i hi => ?_⟩
      have := h.2 i hi
      unfold wpOpIn at this ⊢
      split
      · rename_i hn; rw [hn] at this; exact ih _ _ _ this
      · rename_i o hn
        rw [hn] at this
        simp only [] at this
        split
        · rename_i hw
          rw [if_pos hw] at this
          exact operIn_mono (ih _) hQ this
        · rename_i hw; rw [if_neg hw] at this; exact ⟨this.1, ih _ _ _ this.2⟩
  exact hmono _ _ _ _ hmain
end
end Go.Proofs.Ytjfmiohgkcjdnaa.AX
