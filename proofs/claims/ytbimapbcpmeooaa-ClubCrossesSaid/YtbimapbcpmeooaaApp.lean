/- A whole list is appended. -/
import Derived.Test.YtbimapbcpmeooaaPerm
namespace Go.Proofs.Ytbimapbcpmeooaa
open Go Go.Proofs.Ytbimapbcpmeooaa.AX
theorem ldn_ints {H : AH} {r ver : Nat} : ∀ {m : List Int} {p : Nat}, (∀ i (h : i < m.length), ld H r (p + i) ver = some (.int .i64 m[i])) → ldn H r ver m.length p = some (m.map (.int .i64))
  | [], _, _ => rfl
  | x :: m, p, h => by
    have h0 := h 0 (by simp)
    simp only [Nat.add_zero, List.getElem_cons_zero] at h0
    have h1 : ldn H r ver m.length (p + 1) = some (m.map (.int .i64)) := ldn_ints fun i hi => by
      have := h (i + 1) (by simpa using hi)
      simp only [List.getElem_cons_succ] at this
      rw [← this]; congr 1; omega
    rw [List.length_cons, ldn_succ, h0, Option.bind_some, h1]
    rfl
theorem src_ls {P : Program} {H : AH} {u : TypeId} {x : AV} {m : List Int} (hu : elT P u = true) (hx : Ls H x m) : aSrc P H u 1 x = some (m.length, m.map (.int .i64)) := by
  obtain ⟨e', I', g1, -⟩ := elT_some hu
  obtain ⟨r, off, ver, sz, full, rfl, hld⟩ := hx
  unfold aSrc
  rw [g1]
  cases m with
  | nil => cases r <;> simp
  | cons y m =>
    obtain ⟨r', rfl, rfl, -⟩ := hld 0 (by simp)
    have h1 : ldn H r' ver (y :: m).length off = some ((y :: m).map (.int .i64)) := ldn_ints fun i hi => by
      obtain ⟨r2, h2, -, h3⟩ := hld i hi
      obtain rfl := Option.some.inj h2
      exact h3
    simp only [Nat.mul_one, h1]
    simp
theorem all_ints (m : List Int) : (m.map (AV.int .i64)).all AV.one = true := by
  rw [List.all_eq_true]
  intro x hx
  obtain ⟨i, -, rfl⟩ := List.mem_map.1 hx
  rfl
theorem row0 {P : Program} {H : AH} {t : TypeId} (ht : elT P t = true) : rowV P t 0 [] H = some (some (.slice (some H.length) 0 0 0 1 false), H ++ [.row [] 0 0 false]) := by
  obtain ⟨e, I, h1, h2, h3, h4, hzz⟩ := elT_some ht
  simp [rowV, h1, h2, h3, aFill]
@[simp] theorem row22_0 (H : AH) : rowV Try.prog 22 0 [] H = some (some (.slice (some H.length) 0 0 0 1 false), H ++ [.row [] 0 0 false]) := row0 el22
/-- append(l, x...) -/
theorem ownF_appendL {P : Program} {H H0 : AH} (hE : Ext H0 H) {t u : TypeId} (ht : elT P t = true) (hu : elT P u = true) {v x : AV} {l m : List Int} (ho : OwnF H0.length H v (l.map (.int .i64))) (hx : Ls H x m) (hlen : l.length + m.length ≤ 16777216) :
    ∃ v' H', aAppend P H t u v x = some (v', H') ∧ OwnF H0.length H' v' ((l ++ m).map (.int .i64)) ∧ Ext H0 H' := by
  obtain ⟨e, I, h1, h2, h3, h4, -⟩ := elT_some ht
  have hsrc := src_ls hu hx
  have hall := all_ints m
  have hle := hE.1
  unfold aAppend
  cases m with
  | nil =>
    simp only [List.length_nil, List.map_nil] at hsrc
    refine ⟨v, H, ?_, by simpa using ho, hE⟩
    rcases ho with ⟨-, rfl⟩ | ⟨r, ver, stale, hr0, rfl, hr⟩ <;> simp [h1, h2, h3, h4, hsrc]
  | cons y m =>
    have hml : ((y :: m).map (AV.int .i64)).length = (y :: m).length := by simp
    rw [List.map_append]
    generalize (y :: m).map (AV.int .i64) = vs at *
    have hne : (y :: m).length ≠ 0 := by simp
    generalize (y :: m).length = k at *
    rcases ho with ⟨h0, rfl⟩ | ⟨r, ver, stale, hr0, rfl, hr⟩
    · have : l = [] := by simpa using h0
      subst this
      have hk : k ≤ 16777216 := by simpa using hlen
      refine ⟨.slice (some H.length) 0 k 0 1 false, H ++ [.row vs 0 0 false], ?_, .inr ⟨H.length, 0, 0, by omega, by simp [hml], by simp⟩, hE.trans (.push _ _)⟩
      simp only [h1, h2, h3, h4, hsrc]
      simp [hml, hne, hk]
      exact fun x hx => List.all_eq_true.1 hall x hx
    · have hlt : r < H.length := (List.getElem?_eq_some_iff.1 hr).1
      have hll : (l.map (AV.int .i64)).length = l.length := by simp
      generalize hL : l.map (AV.int .i64) = L at *
      refine ⟨.slice (some r) 0 (l.length + k) (ver + 1) 1 false, H.set r (AObj.row (L ++ vs) (ver + 1) (min stale l.length) false), ?_, .inr ⟨r, ver + 1, min stale l.length, hr0, by simp [hll, hml], get_set hr⟩, hE.set _ hr0⟩
      have hin : inPlace H r 0 l.length k ver 1 vs = none := by simp [inPlace, hr, hll]; omega
      have hgr : grow H r 0 l.length ver vs = some (H.set r (AObj.row (L ++ vs) (ver + 1) (min stale l.length) false), ver + 1) := by
        simp [grow, hr, ← hll]
      simp only [h1, h2, h3, h4, hsrc, hll]
      simp only [Nat.zero_lt_one, true_and, if_true, Option.bind_some, hall, hml, Nat.mul_one, beq_self_eq_true, Bool.and_true, hne, if_false, hlen, Bool.false_eq_true, hin, hgr, Option.map_some]
theorem ls_own0 {H : AH} : Ls (H ++ [.row [] 0 0 false]) (.slice (some H.length) 0 0 0 1 false) [] := ⟨some H.length, 0, 0, 1, false, rfl, fun i hi => by simp at hi⟩
theorem ownF_new (H : AH) : OwnF H.length (H ++ [.row [] 0 0 false]) (.slice (some H.length) 0 0 0 1 false) (([] : List Int).map (.int .i64)) := .inr ⟨H.length, 0, 0, Nat.le_refl _, rfl, by simp⟩
theorem KeepX.new {r : Nat} {H0 A B : AH} (h : KeepX r A B) (hE : Ext H0 A) (hr : H0.length ≤ r) : Ext H0 B := ⟨Nat.le_trans hE.1 h.1, fun j hj => by rw [h.2 j (by omega) (by have := hE.1; omega), hE.2 j hj]⟩
theorem Rw.put {r ver i : Nat} {H : AH} {c : List Int} (h : Rw r ver H c) (hi : i < c.length) (x : Int) :
    ∃ H1, storeV Try.prog 3 H (.ptr r i ver) (.int .i64 x) = some (none, H1) ∧ Rw r ver H1 (c.set i x) ∧ KeepX r H H1 := by
  obtain ⟨s, h⟩ := h
  have h1 := store_row (P := Try.prog) (u := 3) (p := i) sc3 (x := .int .i64 x) (y := .int .i64 c[i]) rfl h (by simp [hi])
  have e1 : (c.map (AV.int .i64)).set i (.int .i64 x) = (c.set i x).map (.int .i64) := by rw [List.map_set]
  rw [e1] at h1
  exact ⟨_, h1, ⟨_, get_set h⟩, (KeepX.refl r H).set _⟩
theorem g_set {c : List Int} {i : Nat} (hi : i < c.length) (x : Int) (k : Nat) : g (c.set i x) k = if k = i then x else g c k := by
  unfold g
  simp only [List.getD_eq_getElem?_getD, List.getElem?_set]
  by_cases h : i = k
  · subst h; simp [hi]
  · rw [if_neg h, if_neg (fun e => h e.symm)]
theorem Rw.ownF {N r ver : Nat} {H : AH} {c : List Int} (h : Rw r ver H c) (hr : N ≤ r) : OwnF N H (.slice (some r) 0 c.length ver 1 false) (c.map (.int .i64)) := by
  obtain ⟨s, h⟩ := h
  exact .inr ⟨r, ver, s, hr, by simp, h⟩
theorem Rw.ls {r ver : Nat} {H : AH} {c : List Int} (h : Rw r ver H c) : Ls H (.slice (some r) 0 c.length ver 1 false) c := by
  obtain ⟨s, h⟩ := h
  exact Ls.row h false
/-- The row of a slice. -/
def rowOf : AV → Option Nat
  | .slice r _ _ _ _ _ => r
  | _ => none
theorem ls_keep {H H' : AH} {w : AV} {l : List Int} (h : Ls H w l) (hk : ∀ j, j < H.length → rowOf w = some j → H'[j]? = H[j]?) : Ls H' w l := by
  obtain ⟨r, off, ver, sz, full, rfl, hl⟩ := h
  refine ⟨r, off, ver, sz, full, rfl, fun i hi => ?_⟩
  obtain ⟨r', h1, h2, h3⟩ := hl i hi
  refine ⟨r', h1, h2, ?_⟩
  have := hk r' (ld_lt h3) h1
  unfold ld at h3 ⊢
  rw [this]; exact h3
/-- append, and which rows stay as they are. -/
theorem ownF_append2 {P : Program} {H H0 : AH} (hE : Ext H0 H) {t u : TypeId} (ht : elT P t = true) (hu : elT P u = true) {v x : AV} {l : List AV} {m : Nat} (ho : OwnF H0.length H v l) (hx : x.one = true) (hlen : l.length < 16777216) :
    ∃ v' H', aAppend P (H ++ [.row [x] 0 m false]) t u v (.slice (some H.length) 0 1 0 1 false) = some (v', H') ∧ OwnF H0.length H' v' (l ++ [x]) ∧ Ext H0 H' ∧ (∀ j, j < H.length → rowOf v ≠ some j → H'[j]? = H[j]?) ∧ (∃ r, rowOf v' = some r ∧ (rowOf v = some r ∨ H.length ≤ r)) ∧ H.length ≤ H'.length := by
  obtain ⟨e, I, h1, h2, h3, h4, -⟩ := elT_some ht
  obtain ⟨e', I', g1, -⟩ := elT_some hu
  have hsrc : aSrc P (H ++ [.row [x] 0 m false]) u 1 (.slice (some H.length) 0 1 0 1 false) = some (1, [x]) := by
    cases x <;> simp_all [aSrc, ldn, takeKnown, AV.one]
  have hle := hE.1
  unfold aAppend
  rcases ho with ⟨rfl, rfl⟩ | ⟨r, ver, stale, hr0, rfl, hr⟩
  · refine ⟨.slice (some (H.length + 1)) 0 1 0 1 false, H ++ [.row [x] 0 m false] ++ [.row [x] 0 0 false], ?_, .inr ⟨H.length + 1, 0, 0, by omega, by simp, by simp⟩, ?_, fun j hj _ => ?_, ⟨H.length + 1, rfl, .inr (by omega)⟩, by simp⟩
    · simp [h1, h2, h3, h4, hsrc, hx]
    · rw [List.append_assoc]; exact hE.trans (.push _ _)
    · rw [List.append_assoc, List.getElem?_append_left hj]
  · have hlt : r < H.length := (List.getElem?_eq_some_iff.1 hr).1
    have hr' : (H ++ [.row [x] 0 m false])[r]? = some (.row l ver stale false) := by rw [List.getElem?_append_left hlt]; exact hr
    refine ⟨.slice (some r) 0 (l.length + 1) (ver + 1) 1 false, (H ++ [AObj.row [x] 0 m false]).set r (AObj.row (l ++ [x]) (ver + 1) (min stale l.length) false), ?_, .inr ⟨r, ver + 1, min stale l.length, hr0, by simp, ?_⟩, ?_, fun j hj hne => ?_, ⟨r, rfl, .inl rfl⟩, by simp⟩
    · have : l.length + 1 ≤ 16777216 := hlen
      have hin : inPlace (H ++ [AObj.row [x] 0 m false]) r 0 l.length 1 ver 1 [x] = none := by simp [inPlace, hr']; omega
      simp [h1, h2, h3, h4, hsrc, hx, grow, hr', this, hin]
    · rw [List.getElem?_set]
      simp; omega
    · exact (hE.trans (.push _ _)).set _ hr0
    · have hjr : r ≠ j := fun h => hne (by rw [h]; rfl)
      rw [List.getElem?_set_ne hjr, List.getElem?_append_left hj]
theorem ownF_ext {N : Nat} {H H1 : AH} {v : AV} {l : List AV} (h : OwnF N H v l) (hE : Ext H H1) : OwnF N H1 v l := by
  rcases h with h | ⟨r, ver, stale, h1, h2, h3⟩
  · exact .inl h
  · exact .inr ⟨r, ver, stale, h1, h2, hE.row h3⟩
theorem ownF_rowlt {N : Nat} {H : AH} {v : AV} {l : List AV} (h : OwnF N H v l) {j : Nat} (hj : rowOf v = some j) : N ≤ j ∧ j < H.length := by
  rcases h with ⟨-, rfl⟩ | ⟨r, ver, stale, h1, rfl, h3⟩
  · cases hj
  · cases hj; exact ⟨h1, (List.getElem?_eq_some_iff.1 h3).1⟩
end Go.Proofs.Ytbimapbcpmeooaa
