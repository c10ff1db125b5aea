/- A plain reading of runs: lists that grow. -/
import Derived.Test.YtjfmiohgkcjdnaaAxV
namespace Go.Proofs.Ytjfmiohgkcjdnaa.AX
open Go Go.RowKit

/-- A slice that nobody else holds, of one cell each. -/
def Own (H : AH) (v : AV) (l : List AV) : Prop :=
  (l = [] ∧ v = .slice none 0 0 0 1 false) ∨ ∃ r ver stale, v = .slice (some r) 0 l.length ver 1 false ∧ H[r]? = some (.row l ver stale false)

theorem Own.nil (H : AH) : Own H (.slice none 0 0 0 1 false) [] := .inl ⟨rfl, rfl⟩

/-- What lies in a heap, but for a slice's own row, lies in another one, too. -/
def Stays (v : AV) (H H' : AH) : Prop := H.length ≤ H'.length ∧ ∀ j, j < H.length → (∀ off len ver sz f, v ≠ .slice (some j) off len ver sz f) → H'[j]? = H[j]?

def elT (P : Program) (t : TypeId) : Bool := match P.underlying t with
  | some (.slice e) => match tiOf P e with | some I => I.size == 1 && decide (I.bytes ≤ 4096) && I.zero.length == 1 | none => false
  | _ => false

section
variable {P : Program} {H : AH}
theorem elT_some {t : TypeId} (h : elT P t = true) : ∃ e I, P.underlying t = some (.slice e) ∧ tiOf P e = some I ∧ I.size = 1 ∧ I.bytes ≤ 4096 ∧ I.zero.length = 1 := by
  unfold elT at h
  split at h
  · rename_i e he
    split at h
    · rename_i I hI
      simp at h
      exact ⟨e, I, he, hI, h.1.1, h.1.2, h.2⟩
    · cases h
  · cases h

theorem Own.ls {v : AV} {l : List Int} (h : Own H v (l.map (.int .i64))) : Ls H v l := by
  rcases h with ⟨h1, rfl⟩ | ⟨r, ver, stale, rfl, hr⟩
  · have : l = [] := by simpa using h1
    subst this
    exact Ls.nil H
  · refine ⟨some r, 0, ver, 1, false, by simp, fun i hi => ⟨r, rfl, rfl, ?_⟩⟩
    simp [ld, hr, hi, known]

theorem Own.len {v : AV} {l : List AV} (h : Own H v l) : ∃ r ver, v = .slice r 0 l.length ver 1 false := by
  rcases h with ⟨rfl, rfl⟩ | ⟨r, ver, stale, rfl, hr⟩
  · exact ⟨none, 0, rfl⟩
  · exact ⟨some r, ver, rfl⟩

theorem own_append {t u : TypeId} (ht : elT P t = true) (hu : elT P u = true) {v x : AV} {l : List AV} {m : Nat} (ho : Own H v l) (hx : x.one = true) (hlen : l.length < 16777216) :
    ∃ v' H', aAppend P (H ++ [.row [x] 0 m false]) t u v (.slice (some H.length) 0 1 0 1 false) = some (v', H') ∧ Own H' v' (l ++ [x]) ∧ Stays v H H' := by
  obtain ⟨e, I, h1, h2, h3, h4, -⟩ := elT_some ht
  obtain ⟨e', I', g1, -⟩ := elT_some hu
  have hsrc : aSrc P (H ++ [.row [x] 0 m false]) u 1 (.slice (some H.length) 0 1 0 1 false) = some (1, [x]) := by
    cases x <;> simp_all [aSrc, ldn, takeKnown, AV.one]
  unfold aAppend
  rcases ho with ⟨rfl, rfl⟩ | ⟨r, ver, stale, rfl, hr⟩
  · refine ⟨.slice (some (H.length + 1)) 0 1 0 1 false, H ++ [.row [x] 0 m false] ++ [.row [x] 0 0 false], ?_, .inr ⟨H.length + 1, 0, 0, by simp, by simp⟩, by simp, fun j hj _ => ?_⟩
    · simp [h1, h2, h3, h4, hsrc, hx]
    · rw [List.append_assoc, List.getElem?_append_left hj]
  · have hlt : r < H.length := (List.getElem?_eq_some_iff.1 hr).1
    have hr' : (H ++ [.row [x] 0 m false])[r]? = some (.row l ver stale false) := by rw [List.getElem?_append_left hlt]; exact hr
    refine ⟨.slice (some r) 0 (l.length + 1) (ver + 1) 1 false, (H ++ [AObj.row [x] 0 m false]).set r (AObj.row (l ++ [x]) (ver + 1) (min stale l.length) false), ?_, .inr ⟨r, ver + 1, min stale l.length, by simp, ?_⟩, by simp, fun j hj hne => ?_⟩
    · have : l.length + 1 ≤ 16777216 := hlen
      have hin : inPlace (H ++ [AObj.row [x] 0 m false]) r 0 l.length 1 ver 1 [x] = none := by simp [inPlace, hr']; omega
      simp [h1, h2, h3, h4, hsrc, hx, grow, hr', this, hin]
    · rw [List.getElem?_set]
      simp; omega
    · have hjr : r ≠ j := fun h => hne 0 l.length ver 1 false (by rw [h])
      rw [List.getElem?_set_ne hjr, List.getElem?_append_left hj]

def appV : Option (AV × AH) → Option (Option AV × AH)
  | some (v, H) => some (some v, H)
  | none => none
@[simp] theorem s_appV (v : AV) (H : AH) : appV (some (v, H)) = some (some v, H) := rfl
variable {ρ : Operand → AV}
@[simp] theorem s_isc_append (as : Array Operand) (ts : Array TypeId) : isFnCall (.call ⟨.builtin .append, as, ts⟩) = false := rfl
@[simp] theorem x_append (x y : Operand) (t u : TypeId) : execN P ρ H (.call ⟨.builtin .append, #[x, y], #[t, u]⟩) = appV (aAppend P H t u (ρ x) (ρ y)) := by
  have : execN P ρ H (.call ⟨.builtin .append, #[x, y], #[t, u]⟩) = (aAppend P H t u (ρ x) (ρ y)).map fun p => (some p.1, p.2) := rfl
  rw [this]
  cases aAppend P H t u (ρ x) (ρ y) <;> rfl
/-- A row of values. -/
def rowV (P : Program) (t : TypeId) (n : Nat) (vs : List (Nat × AV)) (H : AH) : Option (Option AV × AH) :=
  match P.underlying t with
  | some (.slice e) => match tiOf P e with
    | some I =>
      if n * I.size ≤ 16777216 ∧ (n = 0 ∨ 0 < I.size) then
        (aFill (fun i => some (i * I.size, I.size)) ((List.range (n * I.size)).map fun i => (I.zero[i % I.zero.length]?).getD .undef) vs).map fun cells =>
          (some (.slice (some H.length) 0 n 0 I.size false), H ++ [.row cells 0 cells.length false])
      else none
    | none => none
  | _ => none
@[simp] theorem x_buildSlice (t : TypeId) (n : Nat) (ps : Array (Nat × Operand)) : execN P ρ H (.buildSlice t n ps) = rowV P t n (ps.toList.map fun x => (x.1, ρ x.2)) H := rfl
theorem row1 {t : TypeId} (ht : elT P t = true) {x : AV} (hx : x.one = true) (hc : acells x = [x]) : rowV P t 1 [(0, x)] H = some (some (.slice (some H.length) 0 1 0 1 false), H ++ [.row [x] 0 1 false]) := by
  obtain ⟨e, I, h1, h2, h3, h4, hzz⟩ := elT_some ht
  have hu : x.isU = false := by cases x <;> simp_all [AV.one, AV.isU]
  simp [rowV, h1, h2, h3, aFill, hu, hc, hzz, List.range_succ]
end
end Go.Proofs.Ytjfmiohgkcjdnaa.AX
