/- Up to three lists that grow beside one another. -/
import Derived.Test.YtcidcihpkdoejaaSeal
namespace Go.Proofs.Ytcidcihpkdoejaa.Bo
open Go Go.Proofs.Ytcidcihpkdoejaa Go.Proofs.Ytcidcihpkdoejaa.AX
set_option maxRecDepth 100000
def rowOf : AV → Option Nat
  | .slice r _ _ _ _ _ => r
  | _ => none
def Dis (a b : AV) : Prop := ∀ r, rowOf a = some r → rowOf b = some r → False
theorem Dis.symm {a b : AV} (h : Dis a b) : Dis b a := fun r h1 h2 => h r h2 h1
theorem ownF_row {N : Nat} {H : AH} {v : AV} {l : List AV} (h : OwnF N H v l) {r : Nat} (hr : rowOf v = some r) : r < H.length := by
  rcases h with ⟨-, rfl⟩ | ⟨r', ver, stale, h1, rfl, h3⟩
  · cases hr
  · cases hr; exact (List.getElem?_eq_some_iff.1 h3).1
theorem ownF_appendR {P : Program} {H H0 : AH} (hE : Ext H0 H) {t u : TypeId} (ht : elT P t = true) (hu : elT P u = true) {v x : AV} {l : List AV} {m : Nat} (ho : OwnF H0.length H v l) (hx : x.one = true) (hlen : l.length < 16777216) :
    ∃ v' H', aAppend P (H ++ [.row [x] 0 m false]) t u v (.slice (some H.length) 0 1 0 1 false) = some (v', H') ∧ OwnF H0.length H' v' (l ++ [x]) ∧ Ext H0 H' ∧ (∀ j, j < H.length → rowOf v ≠ some j → H'[j]? = H[j]?) ∧ ∀ r, rowOf v' = some r → rowOf v = some r ∨ H.length ≤ r := by
  obtain ⟨e, I, h1, h2, h3, h4, -⟩ := elT_some ht
  obtain ⟨e', I', g1, -⟩ := elT_some hu
  have hsrc : aSrc P (H ++ [.row [x] 0 m false]) u 1 (.slice (some H.length) 0 1 0 1 false) = some (1, [x]) := by
    cases x <;> simp_all [aSrc, ldn, takeKnown, AV.one]
  have hle := hE.1
  unfold aAppend
  rcases ho with ⟨rfl, rfl⟩ | ⟨r, ver, stale, hr0, rfl, hr⟩
  · refine ⟨.slice (some (H.length + 1)) 0 1 0 1 false, H ++ [.row [x] 0 m false] ++ [.row [x] 0 0 false], ?_, .inr ⟨H.length + 1, 0, 0, by omega, by simp, by simp⟩, ?_, ?_, ?_⟩
    · simp [h1, h2, h3, h4, hsrc, hx]
    · rw [List.append_assoc]; exact hE.trans (.push _ _)
    · intro j hj _
      rw [List.append_assoc, List.getElem?_append_left hj]
    · intro r h; cases h; exact .inr (by omega)
  · have hlt : r < H.length := (List.getElem?_eq_some_iff.1 hr).1
    have hr' : (H ++ [.row [x] 0 m false])[r]? = some (.row l ver stale false) := by rw [List.getElem?_append_left hlt]; exact hr
    refine ⟨.slice (some r) 0 (l.length + 1) (ver + 1) 1 false, (H ++ [AObj.row [x] 0 m false]).set r (AObj.row (l ++ [x]) (ver + 1) (min stale l.length) false), ?_, .inr ⟨r, ver + 1, min stale l.length, hr0, by simp, ?_⟩, ?_, ?_, ?_⟩
    · have : l.length + 1 ≤ 16777216 := hlen
      have hin : inPlace (H ++ [AObj.row [x] 0 m false]) r 0 l.length 1 ver 1 [x] = none := by simp [inPlace, hr']; omega
      simp [h1, h2, h3, h4, hsrc, hx, grow, hr', this, hin]
    · rw [List.getElem?_set]
      simp; omega
    · exact (hE.trans (.push _ _)).set _ hr0
    · intro j hj hne
      have : r ≠ j := fun e => hne (by rw [e]; rfl)
      rw [List.getElem?_set_ne this, List.getElem?_append_left hj]
    · intro r' h; exact .inl h
/-- A block; what holds behind it, of what is kept. -/
theorem L_blockK {P : Program} {nt : Nat} {e : Env} {H : AH} {id : Nat} {c c2 : Code} {cs : List Code} {Q : Ex → Env → AH → Prop} (ks : List Nat) (R : Env → AH → Prop) (h : AWL P nt (flat c) e H (Out id fun x e' H' => match x with | .normal => R (ekeep ks e') H' | x => Q x e' H')) (hout : ∀ e' H', R e' H' → AWL P nt (c2 :: cs) e' H' Q) : AWL P nt (.block id c :: c2 :: cs) e H Q :=
  L_blockR (fun e' H' => R (ekeep ks e') H') h (fun _ _ hy => AW.keepE ks (hout _ _ hy))
/-- Three lists in rows of their own. -/
structure L3 (N : Nat) (H : AH) (a b c : AV) (la lb lc : List Int) : Prop where
  oa : OwnF N H a (la.map (.int .i64))
  ob : OwnF N H b (lb.map (.int .i64))
  oc : OwnF N H c (lc.map (.int .i64))
  ab : Dis a b
  ac : Dis a c
  bc : Dis b c
theorem L3.swap {N : Nat} {H : AH} {a b c : AV} {la lb lc : List Int} (h : L3 N H a b c la lb lc) : L3 N H b a c lb la lc := ⟨h.ob, h.oa, h.oc, h.ab.symm, h.bc, h.ac⟩
theorem L3.turn {N : Nat} {H : AH} {a b c : AV} {la lb lc : List Int} (h : L3 N H a b c la lb lc) : L3 N H c b a lc lb la := ⟨h.oc, h.ob, h.oa, h.bc.symm, h.ac.symm, h.ab.symm⟩
theorem Dis.nil (b : AV) : Dis nilS b := fun _ h => by cases h
theorem L3.nil (N : Nat) (H : AH) : L3 N H nilS nilS nilS [] [] [] := ⟨.nil _ _, .nil _ _, .nil _ _, Dis.nil _, Dis.nil _, Dis.nil _⟩
theorem ownF_other {N : Nat} {H H' : AH} {v w : AV} {l : List AV} (h : OwnF N H w l) (hd : Dis v w) (hk : ∀ j, j < H.length → rowOf v ≠ some j → H'[j]? = H[j]?) : OwnF N H' w l := by
  rcases h with h | ⟨r, ver, stale, h1, rfl, h3⟩
  · exact .inl h
  · refine .inr ⟨r, ver, stale, h1, rfl, ?_⟩
    rw [hk r (List.getElem?_eq_some_iff.1 h3).1 (fun e => hd r e rfl)]; exact h3
theorem L3.app {H H0 : AH} {a b c : AV} {la lb lc : List Int} (h : L3 H0.length H a b c la lb lc) (hE : Ext H0 H) (x : Int) (m : Nat) (hlen : la.length < 16777216) :
    ∃ v' H', aAppend Try.prog (H ++ [.row [.int .i64 x] 0 m false]) 22 22 a (.slice (some H.length) 0 1 0 1 false) = some (v', H') ∧ L3 H0.length H' v' b c (la ++ [x]) lb lc ∧ Ext H0 H' := by
  obtain ⟨v', H', h1, h2, h3, h4, h5⟩ := ownF_appendR (m := m) hE el22 el22 h.oa (x := .int .i64 x) rfl (by simpa using hlen)
  refine ⟨v', H', h1, ⟨by simpa using h2, ownF_other h.ob h.ab h4, ownF_other h.oc h.ac h4, ?_, ?_, h.bc⟩, h3⟩
  · intro r hr hb
    rcases h5 r hr with e | e
    · exact h.ab r e hb
    · have := ownF_row h.ob hb; omega
  · intro r hr hb
    rcases h5 r hr with e | e
    · exact h.ac r e hb
    · have := ownF_row h.oc hb; omega
theorem L3.ext {N : Nat} {H H' : AH} {a b c : AV} {la lb lc : List Int} (h : L3 N H a b c la lb lc) (hE : Ext H H') : L3 N H' a b c la lb lc := by
  have keep : ∀ {v : AV} {l : List AV}, OwnF N H v l → OwnF N H' v l := by
    rintro v l (h | ⟨r, ver, stale, h1, h2, h3⟩)
    · exact .inl h
    · exact .inr ⟨r, ver, stale, h1, h2, by rw [hE.2 _ (List.getElem?_eq_some_iff.1 h3).1]; exact h3⟩
  exact ⟨keep h.oa, keep h.ob, keep h.oc, h.ab, h.ac, h.bc⟩
end Go.Proofs.Ytcidcihpkdoejaa.Bo
