/- A plain reading of runs: elements are struck from a slice, in its own row. -/
import Derived.Test.YtjfmiohgkcjdnaaAxO
namespace Go.Proofs.Ytjfmiohgkcjdnaa.AX
open Go Go.RowKit

section
variable {P : Program} {H : AH}
def clrV : Option AH → Option (Option AV × AH)
  | some H => some (some (.tuple []), H)
  | none => none
@[simp] theorem s_clrV (H : AH) : clrV (some H) = some (some (.tuple []), H) := rfl
@[simp] theorem s_isc_clear (as : Array Operand) (ts : Array TypeId) : isFnCall (.call ⟨.builtin .clear, as, ts⟩) = false := rfl
@[simp] theorem x_clear {ρ : Operand → AV} (x : Operand) (t : TypeId) : execN P ρ H (.call ⟨.builtin .clear, #[x], #[t]⟩) = clrV (aClear P H t (ρ x)) := by
  have : execN P ρ H (.call ⟨.builtin .clear, #[x], #[t]⟩) = (aClear P H t (ρ x)).map fun H' => (some (.tuple []), H') := rfl
  rw [this]
  cases aClear P H t (ρ x) <;> rfl

/-- A slice of the call's own, of one cell each; its row, behind the first N, may have more cells. -/
def OwnT (N : Nat) (H : AH) (v : AV) (l : List AV) : Prop :=
  ∃ r ver stale tl, N ≤ r ∧ v = .slice (some r) 0 l.length ver 1 false ∧ H[r]? = some (.row (l ++ tl) ver stale false) ∧ ∀ x ∈ l ++ tl, x.one = true
theorem OwnT.ext {N : Nat} {H1 : AH} {v : AV} {l : List AV} (h : OwnT N H v l) (hE : Ext H H1) : OwnT N H1 v l := by
  obtain ⟨r, ver, stale, tl, h1, h2, h3, h4⟩ := h
  exact ⟨r, ver, stale, tl, h1, h2, hE.row h3, h4⟩
theorem OwnT.ls {N : Nat} {v : AV} {l : List Int} (h : OwnT N H v (l.map (.int .i64))) : Ls H v l := by
  obtain ⟨r, ver, stale, tl, -, rfl, h3, -⟩ := h
  refine ⟨some r, 0, ver, 1, false, by simp, fun i hi => ⟨r, rfl, rfl, ?_⟩⟩
  rw [ld_row h3, Nat.zero_add, List.getElem?_append_left (by simpa using hi)]
  simp [hi]
theorem OwnF.more {N : Nat} {v : AV} {l : List AV} (h : OwnF N H v l) (hne : l ≠ []) (h1 : ∀ x ∈ l, x.one = true) : OwnT N H v l := by
  rcases h with ⟨h, -⟩ | ⟨r, ver, stale, g1, g2, g3⟩
  · exact absurd h hne
  · exact ⟨r, ver, stale, [], g1, g2, by simpa using g3, by simpa using h1⟩

theorem drop_last {α : Type} {l : List α} {i : Nat} (_hi : i < l.length) : l.take i ++ l.drop (i + 1) ++ l.drop (l.length - 1) = l.eraseIdx i ++ l.drop (l.length - 1) := by
  rw [List.eraseIdx_eq_take_drop_succ]

/-- What stands behind is moved one place down. -/
theorem del_append {t : TypeId} (ht : elT P t = true) {r ver stale i : Nat} {l tl : List AV} (hr : H[r]? = some (.row (l ++ tl) ver stale false)) (hone : ∀ x ∈ l ++ tl, x.one = true) (hi : i < l.length) (hlen : l.length ≤ 16777216) (f : Bool) :
    ∃ stale', aAppend P H t t (.slice (some r) 0 i ver 1 false) (.slice (some r) (i + 1) (l.length - (i + 1)) ver 1 f) = some (.slice (some r) 0 (l.length - 1) ver 1 false, H.set r (.row (l.eraseIdx i ++ (l.drop (l.length - 1) ++ tl)) ver stale' false)) := by
  obtain ⟨e, I, h1, h2, h3, h4, -⟩ := elT_some ht
  have hrl : r < H.length := (List.getElem?_eq_some_iff.1 hr).1
  unfold aAppend
  by_cases hl : i + 1 = l.length
  · refine ⟨stale, ?_⟩
    have hsrc : aSrc P H t 1 (.slice (some r) (i + 1) (l.length - (i + 1)) ver 1 f) = some (0, []) := by
      simp [aSrc, h1, hl]
    have he : l.eraseIdx i ++ (l.drop (l.length - 1) ++ tl) = l ++ tl := by
      rw [← List.append_assoc, List.eraseIdx_eq_take_drop_succ, hl, List.drop_length, List.append_nil, show l.length - 1 = i by omega, List.take_append_drop]
    have hs : H.set r (.row (l ++ tl) ver stale false) = H := by
      apply List.ext_getElem?
      intro j
      rw [List.getElem?_set]
      split
      · rename_i h; subst h; exact hr.symm
      · rfl
    rw [he, hs]
    simp [h1, h2, h3, h4, hsrc, show l.length - 1 = i by omega]
  · obtain ⟨n, hn⟩ : ∃ n, n = l.length - (i + 1) := ⟨_, rfl⟩
    have hn0 : 0 < n := by omega
    have hvs : (l.drop (i + 1)).length = n := by simp [hn]
    have hld : ldn H r ver n (i + 1) = some (l.drop (i + 1)) := by
      rw [ldn_row hr, List.drop_append_of_le_length (by omega), ← hvs]
      exact takeKnown_row (fun v hv => one_known (hone v (by simp [List.mem_of_mem_drop hv]))) _
    have hsrc : aSrc P H t 1 (.slice (some r) (i + 1) n ver 1 f) = some (n, l.drop (i + 1)) := by
      simp [aSrc, h1, hn0, hld]
    have hall : (l.drop (i + 1)).all AV.one = true := by
      rw [List.all_eq_true]
      exact fun x hx => hone x (by simp [List.mem_of_mem_drop hx])
    have hcut : (l ++ tl).drop i = (l.drop i ++ tl) := List.drop_append_of_le_length (by omega)
    have htk : (takeKnown n ((l ++ tl).drop i)).isSome = true := by
      have e : l.drop i ++ tl = (l.drop i).take n ++ ((l.drop i).drop n ++ tl) := by rw [← List.append_assoc, List.take_append_drop]
      have hl2 : ((l.drop i).take n).length = n := by simp; omega
      rw [hcut, e]
      have := takeKnown_row (l := (l.drop i).take n) (fun v hv => one_known (hone v (by simp [List.mem_of_mem_drop (List.mem_of_mem_take hv)]))) ((l.drop i).drop n ++ tl)
      rw [hl2] at this
      rw [this]; rfl
    have hin : inPlace H r 0 i n ver 1 (l.drop (i + 1)) = some (H.set r (.row (l.eraseIdx i ++ (l.drop (l.length - 1) ++ tl)) ver (min stale i) false)) := by
      have hne : ∃ x vs, l.drop (i + 1) = x :: vs := by
        cases hd : l.drop (i + 1) with
        | nil => rw [hd] at hvs; simp at hvs; omega
        | cons x vs => exact ⟨x, vs, rfl⟩
      have e2 : (l ++ tl).take i ++ l.drop (i + 1) ++ (l ++ tl).drop (i + n) = l.eraseIdx i ++ (l.drop (l.length - 1) ++ tl) := by
        rw [List.take_append_of_le_length (by omega), List.eraseIdx_eq_take_drop_succ, List.drop_append_of_le_length (by omega), show i + n = l.length - 1 by omega]
      obtain ⟨x, vs, hd⟩ := hne
      rw [← e2]
      rw [← hvs] at htk
      rw [← hvs]
      have hlt : i + (l.drop (i + 1)).length ≤ l.length + tl.length := by rw [hvs]; omega
      rw [hd] at htk hall hlt ⊢
      simp only [inPlace, hr, stn, List.length_append, Nat.mul_one, Nat.zero_add]
      rw [if_pos ⟨trivial, hlt⟩, if_pos ⟨trivial, trivial, hall, htk⟩]
    refine ⟨min stale i, ?_⟩
    rw [← hn]
    simp only [h1, h2, h3, hsrc, hall, hvs, hin, Nat.mul_one, Option.bind_some]
    have hle : i + n ≤ 16777216 := by omega
    simp [h4, show n ≠ 0 by omega, show i + n = l.length - 1 by omega]
    omega

/-- One cell is cleared. -/
theorem del_clear {t : TypeId} {z : AV} (hz : elZ P t = some z) {r ver stale n : Nat} {a tl : List AV} {x : AV} (hr : H[r]? = some (.row (a ++ x :: tl) ver stale false)) (hx : x.one = true) (hz1 : z.one = true) (ha : a.length = n) (f : Bool) :
    aClear P H t (.slice (some r) n 1 ver 1 f) = some (H.set r (.row (a ++ z :: tl) ver (min stale n) false)) := by
  subst ha
  unfold elZ at hz
  split at hz
  case h_2 => cases hz
  rename_i e he
  split at hz
  case h_2 => cases hz
  rename_i I hI
  split at hz
  case isFalse => cases hz
  rename_i hc
  split at hz
  case h_2 => cases hz
  rename_i z' hz'
  obtain rfl := Option.some.inj hz
  have hk : (takeKnown 1 ((a ++ x :: tl).drop a.length)).isSome = true := by
    rw [List.drop_left]
    have := takeKnown_row (l := [x]) (by simpa using one_known hx) tl
    simp only [List.singleton_append, List.length_singleton] at this
    rw [this]; rfl
  unfold aClear
  rw [List.drop_left] at hk
  have hk' : ¬ takeKnown 1 (x :: tl) = none := by intro h; rw [h] at hk; cases hk
  simp only [he, hI, isNilSl, slParts, hc.1, hz']
  simp [stn, hr, hz1, hk']
/-- What returns a list of its own is as good as one that makes just the list's row. -/
theorem AC.tidy {f : FuncId} {args : List AV} {l : List AV} (hne : l ≠ []) (hb : l.all (belB H.length 4) = true) (h : ∀ Q : AV → AH → Prop, (∀ v' H', OwnF H.length H' v' l → Ext H H' → Q v' H') → AC P f args H Q) (Q : AV → AH → Prop)
    (hq : Q (.slice (some H.length) 0 l.length 0 1 false) (H ++ [.row l 0 l.length false])) : AC P f args H Q := by
  refine AC_fin (h _ fun v' H' hO hE => ?_)
  refine ⟨⟨hE.1, fun r o hr ho => .inl (by rw [← hE.2 r hr]; exact ho)⟩, ?_⟩
  have ht : H'.take H.length = H := by
    obtain ⟨T, rfl⟩ := hE.app
    simp
  rcases hO with ⟨h0, -⟩ | ⟨r, ver, stale, hr, rfl, hrow⟩
  · exact absurd h0 hne
  · have h1 : belB H.length 4 (.slice (some r) 0 l.length ver 1 false) = false := by simp [belB]; omega
    have h2 : finSlice H.length H' (.slice (some r) 0 l.length ver 1 false) = some (.slice (some H.length) 0 l.length 0 1 false, .row l 0 l.length false) := by
      simp only [finSlice, hrow, if_pos hr, Nat.mul_one, Nat.zero_add, List.drop_zero, List.take_length]
      rw [if_pos ⟨trivial, Nat.le_refl _, hb⟩]
    have hf : finish H.length H' (.slice (some r) 0 l.length ver 1 false) = (.slice (some H.length) 0 l.length 0 1 false, H ++ [.row l 0 l.length false]) := by
      unfold finish
      rw [h1]
      simp only [Bool.false_eq_true, if_false, h2, ht]
    rw [hf]; exact hq
theorem belB_ints (N : Nat) (l : List Int) : (l.map (AV.int .i64)).all (belB N 4) = true := by
  rw [List.all_eq_true]
  intro x hx
  obtain ⟨i, -, rfl⟩ := List.mem_map.1 hx
  rfl
theorem OwnF.mono {N M : Nat} {v : AV} {l : List AV} (h : OwnF N H v l) (hM : M ≤ N) : OwnF M H v l := by
  rcases h with h | ⟨r, ver, stale, h1, h2, h3⟩
  · exact .inl h
  · exact .inr ⟨r, ver, stale, by omega, h2, h3⟩
theorem ext_of_rows {H0 H1 : AH} (hE : Ext H0 H) {r : Nat} {o : AObj} (hr : H0.length ≤ r) (h : H1 = H.set r o) : Ext H0 H1 := by
  subst h; exact hE.set _ hr
end
end Go.Proofs.Ytjfmiohgkcjdnaa.AX
