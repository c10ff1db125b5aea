/- Lists of ints in memory: what is read of them. -/
import Derived.Test.YtbimapbcpmeooaaRev

namespace Go.Proofs.Ytbimapbcpmeooaa.Cl
open Go Go.Proofs.Ytbimapbcpmeooaa Go.Proofs.Ytbimapbcpmeooaa.AX
set_option maxRecDepth 100000
set_option linter.unusedVariables false
def il (l : List Nat) : List Int := l.map fun x : Nat => (x : Int)
theorem il_len (l : List Nat) : (il l).length = l.length := by simp [il]
theorem il_get {l : List Nat} {i : Nat} (h : i < l.length) : (il l)[i]'(by rw [il_len]; exact h) = (l[i] : Int) := by simp [il]
theorem il_inj {a b : List Nat} (h : il a = il b) : a = b := by
  unfold il at h
  exact (List.map_inj_right (fun x y e => by omega)).1 h
theorem il_snoc (l : List Nat) (x : Nat) : il (l ++ [x]) = il l ++ [(x : Int)] := by simp [il]
theorem il_take (l : List Nat) (i : Nat) : il (l.take i) = (il l).take i := by simp [il]
theorem il_drop (l : List Nat) (i : Nat) : il (l.drop i) = (il l).drop i := by simp [il]
theorem il_app (a b : List Nat) : il (a ++ b) = il a ++ il b := by simp [il]
theorem il_set (l : List Nat) (i x : Nat) : il (l.set i x) = (il l).set i (x : Int) := by simp [il, List.map_set]
theorem ls_ix {H : AH} {v : AV} {l : List Int} (h : Ls H v l) {i : Nat} (hi : i < l.length) : ∃ r p ver, (∀ k, aIndexAddr Try.prog 22 v (.int k (i : Int)) = some (.ptr r p ver)) ∧ ld H r p ver = some (.int .i64 l[i]) := by
  obtain ⟨r, off, ver, sz, full, rfl, hld⟩ := h
  obtain ⟨r', rfl, rfl, h3⟩ := hld i hi
  refine ⟨r', off + i, ver, fun k => ?_, by rw [h3]⟩
  rw [ixa22]
  simp
  omega
theorem ownF_ls {N : Nat} {H : AH} {v : AV} {l : List Int} (h : OwnF N H v (l.map (.int .i64))) : Ls H v l := by
  rcases h with ⟨h1, rfl⟩ | ⟨r, ver, stale, h1, rfl, h3⟩
  · obtain rfl : l = [] := by simpa using h1
    exact Ls.nil H
  · have := Ls.row h3 false
    simpa using this
theorem il_ix {H : AH} {v : AV} {l : List Nat} (h : Ls H v (il l)) {i : Nat} (hi : i < l.length) : ∃ r p ver, (∀ k, aIndexAddr Try.prog 22 v (.int k (i : Int)) = some (.ptr r p ver)) ∧ ld H r p ver = some (.int .i64 (l[i] : Nat)) := by
  obtain ⟨r, p, ver, h1, h2⟩ := ls_ix h (i := i) (by rw [il_len]; exact hi)
  exact ⟨r, p, ver, h1, by rw [h2, il_get hi]⟩
theorem ls_known {H : AH} {s : AV} {l : List Int} (h : Ls H s l) : known (some s) = some s := by
  obtain ⟨r, off, ver, sz, full, rfl, -⟩ := h.sub
  rfl
theorem ls_one {H : AH} {s : AV} {l : List Int} (h : Ls H s l) : s.one = true := by
  obtain ⟨r, off, ver, sz, full, rfl, -⟩ := h
  rfl
theorem ownF_new (H : AH) : OwnF H.length (H ++ [.row [] 0 0 false]) (.slice (some H.length) 0 0 0 1 false) (([] : List Int).map (.int .i64)) := .inr ⟨H.length, 0, 0, Nat.le_refl _, rfl, by simp⟩
theorem copy_append {P : Program} {H : AH} {t u : TypeId} (ht : elT P t = true) (hu : elT P u = true) {x : AV} {m : List Int} (hx : Ls H x m) (hm : m.length ≤ 16777216) :
    ∃ v' H', aAppend P (H ++ [.row [] 0 0 false]) t u (.slice (some H.length) 0 0 0 1 false) x = some (v', H') ∧ OwnF H.length H' v' (m.map (.int .i64)) ∧ Ext H H' := by
  have := ownF_appendL (H0 := H) (.push H [.row [] 0 0 false]) ht hu (ownF_new H) (hx.ext (.push _ _)) (l := []) (by simpa using hm)
  simpa using this
theorem eq_nil {l : Bool} (r : Option Nat) (off n ver sz : Nat) (full : Bool) : binV Try.prog .eql 22 l (.slice r off n ver sz full) (.slice none 0 0 0 1 false) = some (.bool r.isNone) := by
  simp [binV, aBin, aCmp]
theorem Clone_ac (v : AV) (l : List Int) (H : AH) (Q : AV → AH → Prop) (hlen : l.length ≤ 1000000) (hv : Ls H v l) (h : ∀ v' H', OwnF H.length H' v' (l.map (.int .i64)) → Ext H H' → Q v' H') : AC Try.prog 53 [v] H Q := by
  obtain ⟨r0, off0, ver0, sz0, full0, hv0, hld⟩ := id hv
  refine L_body 8 Try.func53 rfl rfl ?_
  refine L_reg [0] (fun K hK => ?_)
  simp
  apply hK; clear hK K
  cases r0 with
  | none =>
    have hl0 : l = [] := by
      cases l with
      | nil => rfl
      | cons a l => obtain ⟨r', e, -⟩ := hld 0 (by simp); cases e
    refine L_reg [0, 4] (fun K hK => ?_)
    simp [hv0, eq_nil]
    apply hK; clear hK K
    refine L_true rfl ?_
    refine L_reg [2] (fun K hK => ?_)
    simp
    apply hK; clear hK K
    subst hl0
    exact L_ret ⟨.inr rfl, _, rfl, h _ _ (.nil _ _) (.refl _)⟩
  | some r0 =>
    obtain ⟨v', H', happ, hO, hE⟩ := copy_append (P := Try.prog) el22 el22 hv (by omega)
    rw [hv0] at happ
    refine L_reg [0, 4] (fun K hK => ?_)
    simp [hv0, eq_nil]
    apply hK; clear hK K
    refine L_false rfl ?_
    refine L_reg [2] (fun K hK => ?_)
    simp [happ]
    apply hK; clear hK K
    exact L_ret ⟨.inr rfl, _, rfl, h v' H' hO hE⟩
theorem ls_len {H : AH} {v : AV} {l : List Int} (h : Ls H v l) : aLen Try.prog 22 v = some (.int .i64 l.length) := Go.Proofs.Ytbimapbcpmeooaa.ls_len h
theorem ils_len {H : AH} {v : AV} {d : List Nat} (h : Ls H v (il d)) : aLen Try.prog 22 v = some (.int .i64 (d.length : Nat)) := by have := ls_len h; rw [il_len] at this; exact this
end Go.Proofs.Ytbimapbcpmeooaa.Cl
