/- An own list grows. -/
import Derived.Test.YtpdcmdmhamnndaaRef2
namespace Go.Proofs.Ytpdcmdmhamnndaa
open Go Go.Proofs.Ytpdcmdmhamnndaa.AX

/-- An own list grows; all other rows stay. -/
theorem own_grow {P : Program} {N : Nat} {H : AH} {t u : TypeId} (ht : elT P t = true) (hu : elT P u = true) {v x : AV} {l : List AV} {m : Nat} (hN : N ≤ H.length) (ho : OwnF N H v l) (hx : x.one = true) (hlen : l.length < 16777216) :
    ∃ r ver s H', aAppend P (H ++ [AObj.row [x] 0 m false]) t u v (.slice (some H.length) 0 1 0 1 false) = some (.slice (some r) 0 (l.length + 1) ver 1 false, H') ∧ N ≤ r ∧ H'[r]? = some (.row (l ++ [x]) ver s false) ∧ KeepX r H H' ∧ (∀ r0 ver0, v = .slice (some r0) 0 l.length ver0 1 false → r = r0) ∧ (v = .slice none 0 0 0 1 false → H.length ≤ r) := by
  obtain ⟨e, I, h1, h2, h3, h4, -⟩ := elT_some ht
  obtain ⟨e', I', g1, -⟩ := elT_some hu
  have hsrc : aSrc P (H ++ [AObj.row [x] 0 m false]) u 1 (.slice (some H.length) 0 1 0 1 false) = some (1, [x]) := by
    cases x <;> simp_all [aSrc, ldn, takeKnown, AV.one]
  unfold aAppend
  rcases ho with ⟨rfl, rfl⟩ | ⟨r, ver, stale, hr0, rfl, hr⟩
  · refine ⟨H.length + 1, 0, 0, H ++ [AObj.row [x] 0 m false] ++ [AObj.row [x] 0 0 false], ?_, by omega, by simp, ?_, fun r0 v0 h => (by cases h), fun _ => by omega⟩
    · simp [h1, h2, h3, h4, hsrc, hx]
    · rw [List.append_assoc]; exact (KeepX.refl _ H).ext (.push _ _)
  · have hlt : r < H.length := (List.getElem?_eq_some_iff.1 hr).1
    have hr' : (H ++ [AObj.row [x] 0 m false])[r]? = some (AObj.row l ver stale false) := by rw [List.getElem?_append_left hlt]; exact hr
    refine ⟨r, ver + 1, min stale l.length, (H ++ [AObj.row [x] 0 m false]).set r (AObj.row (l ++ [x]) (ver + 1) (min stale l.length) false), ?_, hr0, get_set hr', ((KeepX.refl r H).ext (.push _ _)).set _, fun r0 v0 h => (by cases h; rfl), fun h => (by cases h)⟩
    have : l.length + 1 ≤ 16777216 := hlen
    have hin : inPlace (H ++ [AObj.row [x] 0 m false]) r 0 l.length 1 ver 1 [x] = none := by simp [inPlace, hr']; omega
    simp [h1, h2, h3, h4, hsrc, hx, grow, hr', this, hin]
set_option maxRecDepth 100000 in
theorem kept_own (v : AV) (l : List Int) (H : AH) (Q : AV → AH → Prop) (hl : l.length ≤ 1000000) (hv : Ls H v l) (h : ∀ r ver s H', H.length ≤ r → H'[r]? = some (.row (l.map (.int .i64)) ver s false) → Ext H H' → Q (.slice (some r) 0 l.length ver 1 false) H') : AC Try.prog 73 [v] H Q := by
  obtain ⟨r0, off0, ver0, sz0, full0, hv0, -⟩ := id hv
  refine L_body 11 Try.func73 rfl rfl ?_
  refine L_reg [0] (fun K hK => ?_)
  simp
  apply hK; clear hK K
  refine L_reg [0, 3] (fun K hK => ?_)
  simp [hv0, make_z elz22 (show l.length ≤ 16777216 by omega)]
  apply hK; clear hK K
  have hE1 : Ext H (H ++ [AObj.row (List.replicate l.length (AV.int .i64 0)) 0 0 false]) := .push _ _
  have hw : (H ++ [AObj.row (List.replicate l.length (AV.int .i64 0)) 0 0 false])[H.length]? = some (.row (List.replicate l.length (AV.int .i64 0)) 0 0 false) := by simp
  generalize H ++ [AObj.row (List.replicate l.length (AV.int .i64 0)) 0 0 false] = H1 at hE1 hw ⊢
  obtain ⟨s, hcp⟩ := copy_new (H := H) (n := 0) hw (hv.ext hE1)
  rw [hv0] at hcp
  refine L_reg [3] (fun K hK => ?_)
  simp [hcp]
  apply hK; clear hK K
  refine L_reg [2] (fun K hK => ?_)
  simp
  apply hK; clear hK K
  exact L_ret ⟨.inr rfl, _, rfl, h H.length 0 s _ (Nat.le_refl _) (get_set hw) (hE1.set _ (Nat.le_refl _))⟩

end Go.Proofs.Ytpdcmdmhamnndaa
