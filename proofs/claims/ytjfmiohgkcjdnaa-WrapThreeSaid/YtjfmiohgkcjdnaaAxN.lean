/- A plain reading of runs: from a statement about rows to the call itself. -/
import Derived.Test.YtjfmiohgkcjdnaaAxM
namespace Go.Proofs.Ytjfmiohgkcjdnaa.AX
open Go Go.RowKit

def Inj.empty : Inj := ⟨fun _ => 0, fun _ => none, fun _ => 0, fun _ => none, fun _ => 0, fun _ => none⟩

theorem Sim.empty (w : World) : Sim w.heap.size w .empty [] w :=
  ⟨.refl _ _, Nat.le_refl _, fun b r d n h => by simp [Inj.empty] at h, fun r b h => by simp [Inj.empty] at h, fun r c v s o h => by simp at h, fun r l h => by simp at h, fun r g c h => by simp at h, fun r s pe L h => by simp at h, fun b k h => by simp [Inj.empty] at h, fun r r' b h => by simp [Inj.empty] at h⟩

section
variable {P : Program}

/-- A call without rows. -/
theorem AC.calls {f : FuncId} {args : List AV} {cargs : Array Value} {v : AV} {c : Value} {Q : AV → AH → Prop} (h : AC P f args [] Q) (hr : RelVs .empty args cargs.toList) (hv : ∀ v' H', Q v' H' → v' = v) (hc : ∀ σ x, RelV σ v x → x = c) (w : World) :
    Calls P f cargs w fun e w' => e = .returned c ∧ Below w.heap.size w w' := by
  refine (h w.heap.size w .empty w cargs (.empty w) hr).mono ?_
  rintro en w' ⟨c', σ', v', H', rfl, _, h3, h4, h5⟩
  have := hv _ _ h5
  subst this
  exact ⟨by rw [hc _ _ h4], h3.below⟩

theorem relV_bool {σ : Inj} {b : Bool} {x : Value} (h : RelV σ (.bool b) x) : x = .bool b := by cases h; rfl

/-- Package variables alone. -/
def gRows (gs : List (Nat × List AV)) : AH := gs.map fun x => .gvar x.1 x.2
def HasG (gs : List (Nat × List AV)) (H : AH) : Prop := ∀ x ∈ gs, gfind H x.1 = some x.2 ∧ Bels 0 x.2

/-- What holds over package variables alone holds over all rows beside them. -/
theorem AC.closedG {gs : List (Nat × List AV)} {f : FuncId} {args : List AV} {v : AV} (h : AC P f args (gRows gs) fun v' H' => v' = v ∧ H' = gRows gs) (ha : Bels 0 args) (hv : Bel 0 v) (H : AH) (hg : HasG gs H) : AC P f args H fun v' H' => v' = v ∧ H' = H := by
  intro base w0 σ w cargs S hr
  have hsame : ∀ {τ τ' : Inj}, τ.same 0 τ' := fun {τ τ'} => ⟨fun b r d n h => by omega, fun r h => by omega, fun r h => by omega, fun r h => by omega, fun r b h => by omega⟩
  have hempty : ∀ {vs cs}, RelVs σ vs cs → Bels 0 vs → RelVs .empty vs cs := fun h1 h2 => h1.cut hsame h2
  have hrow : ∀ (r : Nat) (o : AObj), (gRows gs)[r]? = some o → ∃ x ∈ gs, o = AObj.gvar x.1 x.2 := by
    intro r o ho
    simp only [gRows, List.getElem?_map, Option.map_eq_some_iff] at ho
    obtain ⟨x, hx, rfl⟩ := ho
    exact ⟨x, List.mem_of_getElem? hx, rfl⟩
  have S1 : Sim w.heap.size w .empty (gRows gs) w := by
    refine ⟨.refl _ _, Nat.le_refl _, fun b r d n h => by simp [Inj.empty] at h, fun r b h => by simp [Inj.empty] at h, fun r c v s o h => ?_, fun r l h => ?_, fun r g c h => ?_, fun r s pe L h => ?_, fun b k h => by simp [Inj.empty] at h, fun r r' b h => by simp [Inj.empty] at h⟩
    · obtain ⟨x, -, e⟩ := hrow _ _ h; cases e
    · obtain ⟨x, -, e⟩ := hrow _ _ h; cases e
    · obtain ⟨x, hx, e⟩ := hrow _ _ h
      cases e
      obtain ⟨h1, h2⟩ := hg x hx
      obtain ⟨r', hr'⟩ := gfind_mem h1
      obtain ⟨g1, C, e, fz, g2, g3⟩ := S.gvars _ _ _ hr'
      exact ⟨by have := S.size; omega, C, e, fz, by rw [S.below.block _ g1]; exact g2, hempty g3 h2⟩
    · obtain ⟨x, -, e⟩ := hrow _ _ h; cases e
  refine (h w.heap.size w .empty w cargs S1 (hempty hr ha)).mono ?_
  rintro en w' ⟨c', σ', v', H', rfl, _, h3, h4, rfl, rfl⟩
  have hB := h3.below
  have hsz : w.heap.size ≤ w'.heap.size := hB.size
  have hblk : ∀ b, b < w.heap.size → w'.heap[b]? = w.heap[b]? := fun b hb => hB.block b hb
  refine ⟨c', σ, v', H, rfl, .refl σ, ?_, ?_, rfl, rfl⟩
  · refine ⟨S.below.trans (hB.mono S.size), Nat.le_trans S.size hsz, fun b r d n h => ?_, fun r b h => ?_, ?_, ?_, S.gvars,
      S.loops_of (.refl σ) (fun k o hk _ => by rw [hblk k (Array.getElem?_eq_some_iff.1 hk).1]; exact hk) (fun _ _ _ _ h => h), S.oths_of (fun _ _ h => h) (fun k o hk _ => by rw [hblk k (Array.getElem?_eq_some_iff.1 hk).1]; exact hk), S.minj⟩
    · have := S.lt b r d n h; exact ⟨this.1, by omega⟩
    · have := S.mlt r b h; exact ⟨this.1, by omega⟩
    · intro r cells ver stale ro hrow
      have R := S.rows _ _ _ _ _ hrow
      have hcell : ∀ b k, b < w.heap.size → w'.cell? ⟨b, k, none⟩ = w.cell? ⟨b, k, none⟩ := fun b k hb => World.cell?_of_block (w := w) (hblk b hb)
      refine ⟨R.ver, R.fin, ?_, ?_⟩
      · obtain ⟨d, n, hf, hc⟩ := R.new
        exact ⟨d, n, hf, fun p v hp => (hc p v hp).mono (.refl σ) (fun k _ => hcell _ _ (S.lt _ _ _ _ hf).2)⟩
      · intro b d n hf
        obtain ⟨g1, ⟨c, e, fz, g2, g3⟩, g4⟩ := R.all b d n hf
        have hb := (S.lt _ _ _ _ hf).2
        exact ⟨g1, ⟨c, e, fz, by rw [hblk _ hb]; exact g2, g3⟩, fun p v hp hv => (g4 p v hp hv).mono (.refl σ) (fun k _ => hcell _ _ hb)⟩
    · intro r l hm
      obtain ⟨b, es, clock, g1, g2, g3, g4⟩ := (S.maps _ _ hm).at_
      exact ⟨b, es, clock, g1, g2, by rw [hblk _ (S.mlt _ _ g1).2]; exact g3, g4⟩
  · exact h4.cut hsame hv

/-- What holds over no rows holds over all. -/
theorem AC.closed {f : FuncId} {args : List AV} {v : AV} (h : AC P f args [] fun v' H' => v' = v ∧ H' = []) (ha : Bels 0 args) (hv : Bel 0 v) (H : AH) : AC P f args H fun v' H' => v' = v ∧ H' = H :=
  AC.closedG (gs := []) h ha hv H (fun x hx => by simp at hx)
end
end Go.Proofs.Ytjfmiohgkcjdnaa.AX
